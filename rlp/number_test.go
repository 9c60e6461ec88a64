package rlp_test

import (
	"bytes"
	"math"
	"math/big"
	"math/rand"
	"strings"
	"testing"

	"moraine/api"
	"moraine/rlp"
)

// numbers: the edges of each count of bits.
func numbers() []uint64 {
	l := []uint64{0, 1, 15, 1024, math.MaxUint64, math.MaxUint64 - 1}
	for bits := 1; bits < 64; bits++ {
		l = append(l, 1<<bits-1, 1<<bits, 1<<bits+1)
	}
	return l
}

// numberByWords: what P4.3 says of a number's encoding.
func numberByWords(n *big.Int) []byte { return bytesByWords(api.Item{Bytes: n.Bytes()}) }

func TestUint(t *testing.T) {
	for n, want := range map[uint64]string{
		0: "80", 1: "01", 127: "7F", 128: "81 80", 255: "81 FF", 256: "82 01 00", 1024: "82 04 00", 1 << 56: "88 01 00 00 00 00 00 00 00", math.MaxUint64: "88 FF FF FF FF FF FF FF FF",
	} {
		if b := rlp.Uint(n); !bytes.Equal(b, unhex(want)) {
			t.Errorf("P4.3: Uint(%d): %x", n, b)
		}
	}
	r := rand.New(rand.NewSource(3))
	l := numbers()
	for range 5000 {
		l = append(l, r.Uint64()>>r.Intn(64))
	}
	for _, n := range l {
		want := numberByWords(new(big.Int).SetUint64(n))
		if b := rlp.Uint(n); !bytes.Equal(b, want) {
			t.Fatalf("P4.3: Uint(%d): %x, want %x", n, b, want)
		}
		if m, e := rlp.Unuint(roomy(want)); m != n || e != api.OK {
			t.Fatalf("P4.3: Unuint(%x): %d, %d", want, m, e)
		}
	}
}

// drawnWord: with each count of bytes as often as another one.
func drawnWord(r *rand.Rand) api.Word {
	var w api.Word
	for i := r.Intn(33); i < 32; i++ {
		w[i] = []byte{0, 1, 0x7F, 0x80, byte(r.Intn(256))}[r.Intn(5)]
	}
	return w
}

func TestWord(t *testing.T) {
	full := api.Word(bytes.Repeat([]byte{0xFF}, 32))
	for _, c := range []struct {
		w    api.Word
		want string
	}{
		{api.Word{}, "80"}, {api.Word{31: 1}, "01"}, {api.Word{31: 0x7F}, "7F"}, {api.Word{31: 0x80}, "81 80"}, {api.Word{30: 4}, "82 04 00"}, {api.Word{30: 0x80, 31: 0}, "82 80 00"},
		{api.Word{23: 1}, "89 01" + strings.Repeat("00", 8)}, {api.Word{0: 1}, "A0 01" + strings.Repeat("00", 31)}, {full, "A0" + strings.Repeat("FF", 32)},
	} {
		if b := rlp.Word(c.w); !bytes.Equal(b, unhex(c.want)) {
			t.Errorf("P4.3: Word(%x): %x", c.w, b)
		}
	}
	r := rand.New(rand.NewSource(4))
	for range 5000 {
		w := drawnWord(r)
		want := numberByWords(new(big.Int).SetBytes(w[:]))
		if b := rlp.Word(w); !bytes.Equal(b, want) {
			t.Fatalf("P4.3: Word(%x): %x, want %x", w, b, want)
		}
		if v, e := rlp.Unword(roomy(want)); v != w || e != api.OK {
			t.Fatalf("P4.3: Unword(%x): %x, %d", want, v, e)
		}
	}
}

// noNumber: that neither Unuint nor Unword takes b, for these reasons, and that nothing is told beside them; OK: what it takes is the other tests' business.
func noNumber(t *testing.T, b []byte, forUint, forWord api.Errno) {
	t.Helper()
	n, e := rlp.Unuint(roomy(b))
	w, f := rlp.Unword(roomy(b))
	if e != forUint || f != forWord {
		t.Errorf("P4.3: %.40x: %d, %d, want %d, %d", b, e, f, forUint, forWord)
	}
	if e != api.OK && n != 0 || f != api.OK && w != (api.Word{}) {
		t.Errorf("P4.3: %.40x: %d, %x beside an error", b, n, w)
	}
}

func TestNoNumbers(t *testing.T) {
	for _, c := range []struct {
		b                string
		forUint, forWord api.Errno
	}{
		{"", api.ErrRlpShort, api.ErrRlpShort}, {"82 01", api.ErrRlpShort, api.ErrRlpShort}, {"81 05", api.ErrRlpForm, api.ErrRlpForm}, {"05 00", api.ErrRlpMore, api.ErrRlpMore}, {"C0 C0", api.ErrRlpMore, api.ErrRlpMore}, {"00 00", api.ErrRlpMore, api.ErrRlpMore},
		{"C0", api.ErrRlpKind, api.ErrRlpKind}, {"C1 05", api.ErrRlpKind, api.ErrRlpKind}, {"C1 00", api.ErrRlpKind, api.ErrRlpKind}, {"C2 81 05", api.ErrRlpForm, api.ErrRlpForm},
		{"00", api.ErrRlpForm, api.ErrRlpForm}, {"82 00 01", api.ErrRlpForm, api.ErrRlpForm}, {"82 00 00", api.ErrRlpForm, api.ErrRlpForm}, {"88 00" + strings.Repeat("01", 7), api.ErrRlpForm, api.ErrRlpForm},
		{"88" + strings.Repeat("01", 8), api.OK, api.OK}, {"89" + strings.Repeat("01", 9), api.ErrRlpKind, api.OK}, {"89 00" + strings.Repeat("01", 8), api.ErrRlpKind, api.ErrRlpForm},
		{"A0" + strings.Repeat("01", 32), api.ErrRlpKind, api.OK}, {"A0 00" + strings.Repeat("01", 31), api.ErrRlpKind, api.ErrRlpForm},
		{"A1" + strings.Repeat("01", 33), api.ErrRlpKind, api.ErrRlpKind}, {"A1 00" + strings.Repeat("01", 32), api.ErrRlpKind, api.ErrRlpKind}, {"B8 38" + strings.Repeat("01", 56), api.ErrRlpKind, api.ErrRlpKind},
	} {
		noNumber(t, unhex(c.b), c.forUint, c.forWord)
	}
	noNumber(t, make([]byte, api.MaxRlp+1), api.ErrRlpLong, api.ErrRlpLong)
	noNumber(t, inLists(16, unhex("05")), api.ErrRlpDeep, api.ErrRlpDeep)
	noNumber(t, inLists(15, unhex("05")), api.ErrRlpKind, api.ErrRlpKind)
}

// faultOfNumber: what P4.3 says of b, if numbers have at most so many bytes.
func faultOfNumber(b []byte, most int) ([]byte, api.Errno) {
	x, n, e := firstByWords(b)
	switch {
	case e != api.OK:
		return nil, e
	case n < len(b):
		return nil, api.ErrRlpMore
	case x.List || len(x.Bytes) > most:
		return nil, api.ErrRlpKind
	case len(x.Bytes) > 0 && x.Bytes[0] == 0:
		return nil, api.ErrRlpForm
	}
	return x.Bytes, api.OK
}

func TestNumbersOfDrawnBytes(t *testing.T) {
	r := rand.New(rand.NewSource(5))
	for range 20000 {
		b := bytesByWords(api.Item{Bytes: drawnBytes(r)})
		switch r.Intn(4) {
		case 0:
			b = hurt(r, b)
		case 1:
			b = numberByWords(new(big.Int).SetUint64(r.Uint64() >> r.Intn(64)))
		}
		small, e := faultOfNumber(b, 8)
		if n, f := rlp.Unuint(b); e != f || n != new(big.Int).SetBytes(small).Uint64() {
			t.Fatalf("P4.3: Unuint(%x): %d, %d, want %x, %d", b, n, f, small, e)
		}
		great, e := faultOfNumber(b, 32)
		if w, f := rlp.Unword(b); e != f || new(big.Int).SetBytes(w[:]).Cmp(new(big.Int).SetBytes(great)) != 0 {
			t.Fatalf("P4.3: Unword(%x): %x, %d, want %x, %d", b, w, f, great, e)
		}
	}
}

func TestEqual(t *testing.T) {
	items := []api.Item{
		text(""), text("\x00"), text("a"), text("b"), text("ab"), long(55), long(56), list(), list(text("")), list(list()), list(text("a")), list(text("a"), text("b")), list(text("ab")),
		list(list(text("a")), text("b")), list(list(text("a"), text("b"))), list(text("b"), text("a")), many(4094), many(4095), nested(15, list()), nested(15, text("")), long(65533), text("\xC0"), text("\x80"),
	}
	for i := range items {
		for j := range items {
			if rlp.Equal(items[i], items[j]) != (i == j) {
				t.Errorf("P4.3: Equal of %d and %d: %v", i, j, i != j)
			}
		}
	}
	if !rlp.Equal(api.Item{}, api.Item{Bytes: []byte{}, Items: []api.Item{}}) || !rlp.Equal(list(), api.Item{List: true, Bytes: []byte{}, Items: []api.Item{}}) {
		t.Error("P4.3: a nil list and an empty one")
	}
	for _, x := range []api.Item{both(true), both(false), many(4096), nested(16, text("")), long(65534), list(both(false)), itself(1)} {
		if rlp.Equal(x, x) || rlp.Equal(x, text("")) || rlp.Equal(list(), x) {
			t.Error("P4.3: Equal of what has no encoding")
		}
	}
}
