package lsm

import (
	"bytes"
	"math/rand"
	"testing"

	"moraine/api"
	"moraine/wal"
)

// padded: a log of n bytes that is right, or as if it were, so that a record may stand at each place of a block.
func padded(n int) []byte { return bytes.Repeat([]byte{0xAA}, n) }

// TestTorn: that what is left of a record that was being laid down is torn, wherever it is cut off, and wherever it begins.
func TestTorn(t *testing.T) {
	t.Parallel()
	r := rand.New(rand.NewSource(1))
	for at := range 2 * api.LogBlock {
		for _, size := range []int{0, 1, 7, 50, 56, 57, 58, 114, 115, 300} {
			record := make([]byte, size)
			r.Read(record)
			log, _ := wal.Append(at, record)
			for cut := range log {
				if !isTorn(append(padded(at), log[:cut]...), at) {
					t.Fatalf("P11.7: at %d, %d of %d bytes of a record of %d", at, cut, len(log), size)
				}
			}
			if isTorn(append(padded(at), log...), at) {
				t.Fatalf("P11.1: at %d: a whole record of %d bytes that Read didn't take", at, size)
			}
		}
	}
}

// TestNotTorn: that a byte that was changed is told, wherever it can be: in a fragment that is whole, and in lengths and kinds that no fragment has there.
func TestNotTorn(t *testing.T) {
	t.Parallel()
	r := rand.New(rand.NewSource(2))
	for at := range api.LogBlock {
		record := make([]byte, 300)
		r.Read(record)
		log, _ := wal.Append(at, record)
		whole := append(padded(at), log...)
		for cut := at + 1; cut <= len(whole); cut += 1 + r.Intn(9) {
			// The last fragment's data, and its sum, may be anything as long as it isn't whole.
			for k := at; k < cut/api.LogBlock*api.LogBlock; k++ {
				b := bytes.Clone(whole[:cut])
				b[k] ^= byte(1 + r.Intn(255))
				if isTorn(b, at) {
					t.Fatalf("P11.1: at %d, cut at %d: byte %d was changed", at, cut, k)
				}
			}
		}
	}
}

func TestNoFragmentsThere(t *testing.T) {
	head := func(length int, kind byte) []byte { return []byte{1, 2, 3, 4, byte(length), byte(length >> 8), kind} }
	full, _ := wal.Append(0, make([]byte, 100))
	first := full[:api.LogBlock]
	for what, c := range map[string]struct {
		b    []byte
		at   int
		want bool
	}{
		"nothing":                           {padded(9), 9, true},
		"a sum":                             {[]byte{9, 9, 9, 9}, 0, true},
		"a length":                          {head(57, 0)[:5], 0, true},
		"a length that is too great":        {head(58, 0)[:5], 0, false},
		"a length of two bytes":             {head(256, 0)[:6], 0, false},
		"a whole one without data":          {head(0, 1), 0, false},
		"a whole one":                       {head(57, 1), 0, true},
		"a whole one that is too long":      {head(58, 1), 0, false},
		"a first one":                       {head(57, 2), 0, true},
		"a first one that is short":         {head(56, 2), 0, false},
		"a middle one":                      {head(57, 3), 0, false},
		"a last one":                        {head(5, 4), 0, false},
		"no kind":                           {head(57, 0), 0, false},
		"another kind":                      {head(57, 5), 0, false},
		"a first one, and nothing":          {first, 0, true},
		"a first one, and a first one":      {append(bytes.Clone(first), head(57, 2)...), 0, false},
		"a first one, and a whole one":      {append(bytes.Clone(first), head(9, 1)...), 0, false},
		"a first one, and a middle one":     {append(bytes.Clone(first), head(57, 3)...), 0, true},
		"a first one, and a short middle":   {append(bytes.Clone(first), head(50, 3)...), 0, false},
		"a first one, and a last one":       {append(bytes.Clone(first), head(50, 4)...), 0, true},
		"a first one, and a last, whole":    {append(bytes.Clone(first), head(0, 4)...), 0, false},
		"zeros":                             {append(padded(60), 0, 0), 60, true},
		"all zeros":                         {append(padded(60), 0, 0, 0, 0), 60, true},
		"zeros, and more":                   {append(padded(60), 0, 0, 0, 0, 0), 60, true},
		"no zeros":                          {append(padded(60), 0, 1), 60, false},
		"no zeros, and more":                {append(append(padded(60), 0, 0, 0, 7), head(9, 1)...), 60, false},
		"a first one without data":          {append(padded(57), head(0, 2)...), 57, false},
		"zeros in the place of a fragment":  {make([]byte, 10), 0, false},
		"zeros in the place of a few bytes": {make([]byte, 6), 0, true},
	} {
		if got := isTorn(c.b, c.at); got != c.want {
			t.Errorf("P11.1: %s: %v", what, got)
		}
	}
}
