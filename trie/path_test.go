package trie_test

import (
	"bytes"
	"math/rand"
	"slices"
	"strings"
	"testing"

	"moraine/api"
	"moraine/trie"
)

// lengths: of paths: the edges, and some between them.
var lengths = []int{0, 1, 2, 3, 4, 63, 64, 65, 126, 127, 128}

// drawnPath: so many nibbles.
func drawnPath(r *rand.Rand, n int) []byte {
	l := make([]byte, n)
	for i := range l {
		l[i] = byte(r.Intn(16))
	}
	return l
}

func TestNibbles(t *testing.T) {
	if l := trie.Nibbles(nil); len(l) != 0 {
		t.Errorf("P14.1: %x", l)
	}
	if l := trie.Nibbles([]byte{0xA1, 0x05, 0xF0}); !bytes.Equal(l, []byte{10, 1, 0, 5, 15, 0}) {
		t.Errorf("P14.1: %x", l)
	}
	var all []byte
	for x := range 256 {
		all = append(all, byte(x))
		if l := trie.Nibbles([]byte{byte(x)}); !bytes.Equal(l, []byte{byte(x / 16), byte(x % 16)}) {
			t.Errorf("P14.1: of %02x: %x", x, l)
		}
	}
	for _, key := range [][]byte{all, bytes.Repeat(all, 40)} {
		if l := trie.Nibbles(key); string(l) != halves(string(key)) {
			t.Errorf("P14.1: of %d bytes: %x", len(key), l)
		}
	}
}

func TestPackExamples(t *testing.T) {
	for _, c := range []struct {
		path []byte
		leaf bool
		want string
	}{
		{[]byte{1, 2, 3}, false, "11 23"}, {[]byte{0, 1}, true, "20 01"}, {nil, false, "00"}, {nil, true, "20"},
		{[]byte{0}, false, "10"}, {[]byte{0}, true, "30"}, {[]byte{15}, false, "1F"}, {[]byte{15}, true, "3F"},
		{[]byte{0, 0}, false, "00 00"}, {[]byte{15, 14}, false, "00 FE"}, {[]byte{15, 14}, true, "20 FE"},
		{[]byte{1, 2, 3, 4, 5}, false, "11 23 45"}, {[]byte{0, 1, 2, 3, 4, 5}, false, "00 01 23 45"},
		{[]byte{0, 15, 1, 12, 11, 8}, true, "20 0F 1C B8"}, {[]byte{15, 1, 12, 11, 8}, true, "3F 1C B8"},
	} {
		if b, e := trie.Pack(c.path, c.leaf); !bytes.Equal(b, unhex(c.want)) || e != api.OK {
			t.Errorf("P14.1: Pack(%v, %v): %x, %d", c.path, c.leaf, b, e)
		}
		if p, leaf, e := trie.Unpack(unhex(c.want)); !bytes.Equal(p, c.path) || leaf != c.leaf || e != api.OK {
			t.Errorf("P14.1: Unpack(%s): %v, %v, %d", c.want, p, leaf, e)
		}
	}
}

func TestPack(t *testing.T) {
	r := rand.New(rand.NewSource(1))
	for _, n := range lengths {
		for _, leaf := range []bool{false, true} {
			for range 20 {
				path := drawnPath(r, n)
				want := packByWords(string(path), leaf)
				b, e := trie.Pack(path, leaf)
				if !bytes.Equal(b, want) || e != api.OK {
					t.Fatalf("P14.1: Pack(%x, %v): %x, %d, not %x", path, leaf, b, e, want)
				}
				if p, l, e := trie.Unpack(want); !bytes.Equal(p, path) || l != leaf || e != api.OK {
					t.Fatalf("P14.1: Unpack(%x): %x, %v, %d", want, p, l, e)
				}
			}
		}
	}
}

func TestPackRefuses(t *testing.T) {
	refused := func(path []byte) {
		t.Helper()
		for _, leaf := range []bool{false, true} {
			if b, e := trie.Pack(path, leaf); len(b) != 0 || e != api.ErrTrieKey {
				t.Errorf("P14.1: Pack(%x, %v): %x, %d", path, leaf, b, e)
			}
		}
	}
	for _, n := range []int{129, 130, 131, 256, 5000} {
		refused(make([]byte, n))
	}
	for _, n := range []int{1, 2, 127, 128} {
		for _, x := range []byte{16, 17, 32, 128, 255} {
			for _, at := range []int{0, n / 2, n - 1} {
				path := make([]byte, n)
				path[at] = x
				refused(path)
			}
		}
	}
	refused(bytes.Repeat([]byte{16}, 129))
}

func TestUnpackRefuses(t *testing.T) {
	refused := func(b []byte) {
		t.Helper()
		if p, leaf, e := trie.Unpack(b); len(p) != 0 || leaf || e != api.ErrTrieForm {
			t.Errorf("P14.1: Unpack(%x): %x, %v, %d", b, p, leaf, e)
		}
	}
	refused(nil)
	for first := range 256 {
		if first >= 64 || first/16%2 == 0 && first%16 != 0 {
			refused([]byte{byte(first)})
			refused([]byte{byte(first), 0x12})
			refused(append([]byte{byte(first)}, make([]byte, 63)...))
		}
	}
	for _, first := range []byte{0x00, 0x20, 0x10, 0x30, 0x1F, 0x3F} {
		for _, n := range []int{65, 66, 67, 130, 4096} {
			refused(append([]byte{first}, make([]byte, n)...))
		}
	}
	refused(unhex("10" + strings.Repeat("00", 64)))
	refused(unhex("3F" + strings.Repeat("FF", 64)))
}

// TestUnpackAll: all of one and two bytes.
func TestUnpackAll(t *testing.T) {
	taken := 0
	for x := range 1 << 16 {
		for _, b := range [][]byte{{byte(x >> 8)}, {byte(x >> 8), byte(x)}} {
			p, leaf, e := trie.Unpack(b)
			if e != api.OK {
				continue
			}
			taken++
			if back, e := trie.Pack(p, leaf); !bytes.Equal(back, b) || e != api.OK || slices.Max(append(p, 0)) > 15 {
				t.Fatalf("P14.1: Unpack(%x): %x, %v: packed %x, %d", b, p, leaf, back, e)
			}
		}
	}
	// 16 odd paths and an even one, each a leaf's or not; as many with each second byte. (Those of one byte are met 256 times.)
	if taken != 2*34*256 {
		t.Errorf("P14.1: %d are taken", taken)
	}
}

func TestSecure(t *testing.T) {
	for key, want := range map[string]string{
		"":    "c5d2460186f7233c927e7db2dcc703c0e500b653ca82273b7bfad8045d85a470",
		"abc": "4e03657aea45a94fc7d47ba826c8d667c0d1e6e33a64a036ec44f58fa12d6c45",
	} {
		if b := trie.Secure([]byte(key)); !bytes.Equal(b, unhex(want)) {
			t.Errorf("P14.2: Secure(%q): %x", key, b)
		}
	}
}
