package codec_test

import (
	"bytes"
	"encoding/binary"
	"hash/crc32"
	"math"
	"math/rand"
	"testing"

	"moraine/api"
	"moraine/codec"
)

// drawn: some bytes, often with many of one kind, so that edges are met.
func drawn(r *rand.Rand, most int) []byte {
	b := make([]byte, r.Intn(most+1))
	for i := range b {
		b[i] = []byte{0, 1, 0x7F, 0x80, 0x81, 0xFF, byte(r.Intn(256))}[r.Intn(7)]
	}
	return b
}

// roomy: b with other bytes in the room behind it.
func roomy(b []byte) []byte {
	c := append(bytes.Clone(b), 0xA5, 0, 0x80, 1, 0xFF, 2, 3, 4, 5)
	return c[:len(b)]
}

// drawnNumber: with each count of bits as often as another one.
func drawnNumber(r *rand.Rand) uint64 {
	return r.Uint64() >> r.Intn(64)
}

// numbers: the edges of each count of groups.
func numbers() []uint64 {
	l := []uint64{0, 1, 300, math.MaxUint64, math.MaxUint64 - 1}
	for bits := 1; bits < 64; bits++ {
		l = append(l, 1<<bits-1, 1<<bits, 1<<bits+1)
	}
	return l
}

func TestPut(t *testing.T) {
	for _, c := range []struct {
		n    uint64
		want string
	}{
		{0, "\x00"}, {1, "\x01"}, {127, "\x7f"}, {128, "\x80\x01"}, {300, "\xac\x02"}, {16383, "\xff\x7f"}, {16384, "\x80\x80\x01"},
		{1<<63 - 1, "\xff\xff\xff\xff\xff\xff\xff\xff\x7f"}, {1 << 63, "\x80\x80\x80\x80\x80\x80\x80\x80\x80\x01"},
		{math.MaxUint64, "\xff\xff\xff\xff\xff\xff\xff\xff\xff\x01"},
	} {
		if got := codec.Put(c.n); string(got) != c.want {
			t.Errorf("P2.1: Put(%d): %x", c.n, got)
		}
	}
	for _, n := range numbers() {
		if got := codec.Put(n); !bytes.Equal(got, binary.AppendUvarint(nil, n)) {
			t.Errorf("P2.1: Put(%d): %x", n, got)
		}
	}
}

func TestTake(t *testing.T) {
	nine := "\xff\xff\xff\xff\xff\xff\xff\xff\xff"
	for _, c := range []struct {
		b     string
		n     uint64
		width int
		e     api.Errno
	}{
		{"\x00", 0, 1, api.OK},
		{"\x00\x00", 0, 1, api.OK},
		{"\x7f\x80", 127, 1, api.OK},
		{"\xac\x02\xff", 300, 2, api.OK},
		{"\x80\x80\x01", 16384, 3, api.OK},
		{nine + "\x01", math.MaxUint64, 10, api.OK},
		{nine + "\x01\x00", math.MaxUint64, 10, api.OK},
		{"\x80\x80\x80\x80\x80\x80\x80\x80\x80\x01", 1 << 63, 10, api.OK},
		{"", 0, 0, api.ErrCodecShort},
		{"\x80", 0, 0, api.ErrCodecShort},
		{"\x80\x80", 0, 0, api.ErrCodecShort},
		{nine, 0, 0, api.ErrCodecShort},
		{"\x80\x00", 0, 0, api.ErrCodecLong},
		{"\xff\x00", 0, 0, api.ErrCodecLong},
		{"\xff\x80\x00\x01", 0, 0, api.ErrCodecLong},
		{nine + "\x00", 0, 0, api.ErrCodecLong},
		{nine + "\x02", 0, 0, api.ErrCodecLong},
		{nine + "\x7f", 0, 0, api.ErrCodecLong},
		{nine + "\x80", 0, 0, api.ErrCodecLong},
		{nine + "\x81", 0, 0, api.ErrCodecLong},
		{nine + "\x81\x00", 0, 0, api.ErrCodecLong},
	} {
		n, width, e := codec.Take(roomy([]byte(c.b)))
		if n != c.n || width != c.width || e != c.e {
			t.Errorf("P2.1: Take(%x): %d, %d, %d", c.b, n, width, e)
		}
	}
}

// takeByWords: what P2.1 says, one byte at a time, with the number's groups reckoned by multiplying.
func takeByWords(b []byte) (uint64, int, api.Errno) {
	n, worth := uint64(0), uint64(1)
	for i := 0; ; i++ {
		switch {
		case i == len(b):
			return 0, 0, api.ErrCodecShort
		case i == 9 && b[i] > 1:
			return 0, 0, api.ErrCodecLong
		case i > 0 && b[i] == 0:
			return 0, 0, api.ErrCodecLong
		}
		n += uint64(b[i]%128) * worth
		worth *= 128
		if b[i] < 128 {
			return n, i + 1, api.OK
		}
	}
}

func TestTakeOfDrawnBytes(t *testing.T) {
	r := rand.New(rand.NewSource(1))
	for range 200000 {
		b := drawn(r, 13)
		n, width, e := codec.Take(roomy(b))
		n2, width2, e2 := takeByWords(b)
		if n != n2 || width != width2 || e != e2 {
			t.Fatalf("P2.1: Take(%x): %d, %d, %d, want %d, %d, %d", b, n, width, e, n2, width2, e2)
		}
		if e == api.OK && !bytes.Equal(codec.Put(n), b[:width]) {
			t.Fatalf("P2.7: %x is another spelling of %d", b[:width], n)
		}
	}
}

func TestTakeOfPut(t *testing.T) {
	r := rand.New(rand.NewSource(2))
	list := numbers()
	for range 20000 {
		list = append(list, drawnNumber(r))
	}
	for _, n := range list {
		b := codec.Put(n)
		got, width, e := codec.Take(append(bytes.Clone(b), drawn(r, 12)...))
		if got != n || width != len(b) || e != api.OK {
			t.Fatalf("P2.7: Take of Put(%d): %d, %d, %d", n, got, width, e)
		}
		for k := range b {
			if got, width, e := codec.Take(b[:k]); got != 0 || width != 0 || e != api.ErrCodecShort {
				t.Fatalf("P2.1: Take(%x): %d, %d, %d", b[:k], got, width, e)
			}
		}
	}
}

func TestFixed(t *testing.T) {
	if got := codec.Fixed4(0x04030201); string(got) != "\x01\x02\x03\x04" {
		t.Errorf("P2.2: Fixed4: %x", got)
	}
	if got := codec.Fixed8(0x0807060504030201); string(got) != "\x01\x02\x03\x04\x05\x06\x07\x08" {
		t.Errorf("P2.2: Fixed8: %x", got)
	}
	r := rand.New(rand.NewSource(3))
	list := numbers()
	for range 5000 {
		list = append(list, drawnNumber(r))
	}
	for _, n := range list {
		four, eight := codec.Fixed4(uint32(n)), codec.Fixed8(n)
		if !bytes.Equal(four, binary.LittleEndian.AppendUint32(nil, uint32(n))) || !bytes.Equal(eight, binary.LittleEndian.AppendUint64(nil, n)) {
			t.Fatalf("P2.2: %d: %x, %x", n, four, eight)
		}
		small, e := codec.Unfixed4(append(four, drawn(r, 5)...))
		great, f := codec.Unfixed8(append(eight, drawn(r, 5)...))
		if small != uint32(n) || e != api.OK || great != n || f != api.OK {
			t.Fatalf("P2.2: %d: %d, %d, %d, %d", n, small, e, great, f)
		}
	}
}

func TestUnfixedOfTooFew(t *testing.T) {
	b := []byte{1, 2, 3, 4, 5, 6, 7, 8}
	for k := range 8 {
		n, e := codec.Unfixed8(b[:k])
		if n != 0 || e != api.ErrCodecShort {
			t.Errorf("P2.2: Unfixed8 of %d bytes: %d, %d", k, n, e)
		}
	}
	for k := range 4 {
		n, e := codec.Unfixed4(b[:k])
		if n != 0 || e != api.ErrCodecShort {
			t.Errorf("P2.2: Unfixed4 of %d bytes: %d, %d", k, n, e)
		}
	}
	if n, e := codec.Unfixed4(b[:4]); n != 0x04030201 || e != api.OK {
		t.Errorf("P2.2: %d, %d", n, e)
	}
	if n, e := codec.Unfixed8(nil); n != 0 || e != api.ErrCodecShort {
		t.Errorf("P2.2: %d, %d", n, e)
	}
}

func TestSum(t *testing.T) {
	for text, want := range map[string]uint32{
		"":                                     0,
		"123456789":                            0xE3069283,
		string(make([]byte, 32)):               0x8A9136AA,
		string(bytes.Repeat([]byte{0xFF}, 32)): 0x62A8AB43,
	} {
		if got := codec.Sum([]byte(text)); got != want {
			t.Errorf("P2.3: Sum(%x): %X", text, got)
		}
	}
	r := rand.New(rand.NewSource(4))
	table := crc32.MakeTable(crc32.Castagnoli)
	for range 3000 {
		b := drawn(r, 300)
		if got, want := codec.Sum(b), crc32.Checksum(b, table); got != want {
			t.Fatalf("P2.3: Sum(%x): %X, want %X", b, got, want)
		}
	}
}
