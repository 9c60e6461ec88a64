package trie_test

import (
	"bytes"
	"encoding/hex"
	"fmt"
	"math/rand"
	"slices"
	"strings"
	"testing"

	"moraine/api"
	"moraine/rlp"
	"moraine/trie"
)

func text(b []byte) api.Item { return api.Item{Bytes: b} }

func list(l ...api.Item) api.Item { return api.Item{List: true, Items: l} }

// sized: a string of so many bytes.
func sized(n int) api.Item { return text(bytes.Repeat([]byte{0xAB}, n)) }

// hash: a reference by hash.
func hash(x byte) api.Item { return text(bytes.Repeat([]byte{x}, 32)) }

func leaf(path string, value api.Item) api.Item { return list(text(packByWords(path, true)), value) }

func way(path string, ref api.Item) api.Item { return list(text(packByWords(path, false)), ref) }

// fork: a list of 17 with these at their places, and a value at 16.
func fork(parts map[int]api.Item) api.Item {
	x := list(make([]api.Item, 17)...)
	for i, y := range parts {
		x.Items[i] = y
	}
	return x
}

func encoded(x api.Item) []byte {
	b, e := rlp.Encode(x)
	if e != api.OK {
		panic(e)
	}
	return b
}

// takesPath: whether P14.1 has a path of which Pack tells b.
func takesPath(b []byte) (string, bool, bool) {
	digits := hex.EncodeToString(b)
	for _, leaf := range []bool{false, true} {
		for skip := 1; skip <= 2 && skip <= len(digits); skip++ {
			path := ""
			for _, d := range digits[skip:] {
				path += string([]byte{byte(strings.IndexRune("0123456789abcdef", d))})
			}
			if len(path) <= 128 && bytes.Equal(packByWords(path, leaf), b) {
				return path, leaf, true
			}
		}
	}
	return "", false, false
}

// isReference, isNode: P14.3's words of an item.
func isReference(x api.Item) bool {
	return !x.List && len(x.Bytes) == 32 || x.List && len(encoded(x)) < 32 && isNode(x)
}

func isNode(x api.Item) bool {
	if !x.List {
		return false
	}
	empty := func(y api.Item) bool { return !y.List && len(y.Bytes) == 0 }
	switch len(x.Items) {
	case 2:
		path, isLeaf, ok := takesPath(x.Items[0].Bytes)
		if x.Items[0].List || !ok {
			return false
		}
		if isLeaf {
			return !x.Items[1].List && !empty(x.Items[1])
		}
		return len(path) > 0 && isReference(x.Items[1])
	case 17:
		full := 0
		for i, y := range x.Items {
			if i < 16 && !empty(y) && !isReference(y) || i == 16 && y.List {
				return false
			}
			if !empty(y) {
				full++
			}
		}
		return full >= 2
	}
	return false
}

// referred: the hashes within a node, in order.
func referred(x api.Item) []api.Hash {
	var l []api.Hash
	take := func(y api.Item) {
		if y.List {
			l = append(l, referred(y)...)
		} else if len(y.Bytes) == 32 {
			l = append(l, api.Hash(y.Bytes))
		}
	}
	if len(x.Items) == 17 {
		for _, y := range x.Items[:16] {
			take(y)
		}
	} else if _, isLeaf, _ := takesPath(x.Items[0].Bytes); !isLeaf {
		take(x.Items[1])
	}
	return l
}

// heldToWords: that Check and Children tell of b what P14.3 says; what that is.
func heldToWords(t *testing.T, b []byte) api.Errno {
	t.Helper()
	x, want := rlp.Decode(b)
	var hashes []api.Hash
	switch {
	case want != api.OK:
	case !isNode(x):
		want = api.ErrTrieForm
	default:
		hashes = referred(x)
	}
	if e := trie.Check(b); e != want {
		t.Fatalf("P14.3: Check(%.99x): %d, not %d", b, e, want)
	}
	if l, e := trie.Children(b); e != want || !slices.Equal(l, hashes) {
		t.Fatalf("P14.3: Children(%.99x): %x, %d, not %x, %d", b, l, e, hashes, want)
	}
	return want
}

func TestCheck(t *testing.T) {
	short := leaf("\x01", sized(1))
	for what, x := range map[string]api.Item{
		"a leaf": leaf("\x01\x02", sized(3)), "a leaf of no nibble": leaf("", sized(1)), "a leaf of 128 nibbles": leaf(strings.Repeat("\x0F", 128), sized(1)), "a leaf of 127": leaf(strings.Repeat("\x00", 127), sized(1)),
		"a leaf with a value of 1024": leaf("", sized(1024)), "of 1025": leaf("", sized(1025)), "of thousands": leaf("", sized(65000)), "of 32": leaf("\x01", hash(1)),
		"a path": way("\x01", hash(1)), "a path of 2": way("\x01\x02", hash(1)), "a path of 128": way(strings.Repeat("\x01", 128), hash(1)), "a path above a leaf": way("\x01", short), "a path above a path": way("\x01", way("\x02", short)),
		"a path above a short list of 17": way("\x01", fork(map[int]api.Item{0: short, 1: short})),
		"two references":                  fork(map[int]api.Item{0: hash(1), 15: hash(2)}), "a reference and a value": fork(map[int]api.Item{7: hash(1), 16: sized(1)}), "two short ones": fork(map[int]api.Item{3: short, 4: short}),
		"a short one and a value of 32": fork(map[int]api.Item{3: short, 16: hash(2)}), "a short path": fork(map[int]api.Item{3: way("\x01", short), 16: sized(1)}), "a long value": fork(map[int]api.Item{3: short, 16: sized(5000)}),
		"all of 17": fork(map[int]api.Item{0: hash(1), 1: hash(2), 2: hash(3), 3: hash(4), 4: hash(5), 5: short, 6: short, 7: short, 8: short, 9: short, 10: short, 11: short, 12: short, 13: short, 14: short, 15: short, 16: short.Items[1]}),
	} {
		if e := heldToWords(t, encoded(x)); e != api.OK {
			t.Errorf("P14.3: %s: %d", what, e)
		}
	}
}

func TestCheckRefuses(t *testing.T) {
	short := leaf("\x01", sized(1))
	for what, x := range map[string]api.Item{
		"the empty string": text(nil), "a string": sized(5), "a string of 32": hash(1), "a string that is a node's bytes": text(encoded(short)),
		"a list of 0": list(), "of 1": list(short.Items[0]), "of 1 node": list(short), "of 3": list(short.Items[0], short.Items[1], text(nil)), "of 16": list(make([]api.Item, 16)...), "of 18": list(append(fork(map[int]api.Item{0: hash(1), 1: hash(2)}).Items, text(nil))...),
		"16 references": list(slices.Repeat([]api.Item{hash(1)}, 16)...), "18 references": list(slices.Repeat([]api.Item{hash(1)}, 18)...),
		"a leaf without a value": leaf("\x01", text(nil)), "a leaf with a list": leaf("\x01", list()), "a leaf with a node": leaf("\x01", short),
		"a path that is a list": list(list(), sized(1)), "a path that is a list of one": list(list(short.Items[0]), hash(1)), "a path of no byte": list(text(nil), sized(1)), "a path of no byte above a hash": list(text(nil), hash(1)),
		"a first nibble of 4": list(text([]byte{0x40}), sized(1)), "of 15": list(text([]byte{0xF0, 1}), hash(1)), "an even path whose second nibble isn't 0": list(text([]byte{0x21}), sized(1)), "likewise, no leaf": list(text([]byte{0x01, 2}), hash(1)),
		"129 nibbles": list(text(append([]byte{0x31}, make([]byte, 64)...)), sized(1)), "130 nibbles": list(text(append([]byte{0x00}, make([]byte, 65)...)), hash(1)),
		"no nibble above a hash": way("", hash(1)), "no nibble above a leaf": way("", short), "a path above nothing": way("\x01", text(nil)),
		"31 bytes": way("\x01", sized(31)), "33 bytes": way("\x01", sized(33)), "1 byte": way("\x01", sized(1)), "an empty list": way("\x01", list()), "a list of one": way("\x01", list(sized(1))),
		"17 with none": fork(nil), "one reference": fork(map[int]api.Item{5: hash(1)}), "one short one": fork(map[int]api.Item{15: short}), "a value alone": fork(map[int]api.Item{16: sized(3)}), "a value of 32 alone": fork(map[int]api.Item{16: hash(3)}),
		"a value that is a list": fork(map[int]api.Item{0: hash(1), 1: hash(2), 16: list()}), "that is a node": fork(map[int]api.Item{0: hash(1), 1: hash(2), 16: short}),
		"31 bytes in 17": fork(map[int]api.Item{0: hash(1), 1: hash(2), 2: sized(31)}), "33 bytes in 17": fork(map[int]api.Item{0: sized(33), 1: hash(2), 2: hash(3)}), "1 byte in 17": fork(map[int]api.Item{0: hash(1), 1: hash(2), 15: sized(1)}),
		"an empty list in 17": fork(map[int]api.Item{0: hash(1), 1: hash(2), 2: list()}), "no node in 17": fork(map[int]api.Item{0: hash(1), 1: hash(2), 9: leaf("\x01", text(nil))}),
		"no node, a level deeper": way("\x01", way("\x02", leaf("", text(nil)))), "no node in a list in a list": fork(map[int]api.Item{0: hash(1), 1: hash(2), 9: way("\x01", way("", short))}), "one of 17 in a list": way("\x01", fork(map[int]api.Item{0: short})),
	} {
		if e := heldToWords(t, encoded(x)); e != api.ErrTrieForm {
			t.Errorf("P14.3: %s: %d", what, e)
		}
	}
}

// TestCheckShortLists: nodes within nodes, of each length up to 40 bytes: those below 32 may stand there.
func TestCheckShortLists(t *testing.T) {
	met := map[int]bool{}
	for n := 1; n < 40; n++ {
		inner := []api.Item{leaf("\x01", sized(n)), leaf("\x01\x02\x03\x04", sized(n)), way("\x01", leaf("", sized(n))), fork(map[int]api.Item{1: leaf("", sized(n)), 2: leaf("\x01", sized(1))}), fork(map[int]api.Item{1: leaf("", sized(1)), 16: sized(n)})}
		for _, x := range inner {
			size := len(encoded(x))
			want := api.OK
			if size >= 32 {
				want = api.ErrTrieForm
			}
			met[size] = true
			heldToWords(t, encoded(x))
			for _, outer := range []api.Item{way("\x01", x), fork(map[int]api.Item{0: hash(1), 9: x}), fork(map[int]api.Item{15: x, 16: sized(1)})} {
				if e := heldToWords(t, encoded(outer)); e != want {
					t.Fatalf("P14.3: a list of %d bytes in %x: %d", size, encoded(outer), e)
				}
			}
		}
	}
	if !met[31] || !met[32] || !met[33] {
		t.Error("no list of 31, 32, 33 bytes")
	}
	// A list within a list within a node: the inner one may have 31 bytes, but what it stands in may not have 32.
	for n := 20; n < 34; n++ {
		heldToWords(t, encoded(way("\x01", way("\x02", leaf("", sized(n))))))
	}
}

// TestCheckDepth: paths above paths, as deep as items may be, and deeper.
func TestCheckDepth(t *testing.T) {
	x := leaf("", text([]byte{1}))
	for depth := 2; depth < 20; depth++ {
		b, e := rlp.Encode(x)
		want := api.OK
		if e != api.OK {
			inner := encoded(x.Items[1])
			b, want = append([]byte{0xC0 + byte(len(inner)) + 1, 0x11}, inner...), api.ErrRlpDeep
		}
		if got := heldToWords(t, b); got != want {
			t.Errorf("P14.3: a depth of %d: %d, not %d", depth, got, want)
		}
		if want != api.OK {
			return
		}
		x = way("\x01", x)
	}
	t.Error("nothing was too deep")
}

func TestCheckBytes(t *testing.T) {
	node := encoded(leaf("\x01", sized(5)))
	for _, c := range []struct {
		b    []byte
		want api.Errno
	}{
		{nil, api.ErrRlpShort}, {node[:len(node)-1], api.ErrRlpShort}, {append(bytes.Clone(node), 0), api.ErrRlpMore}, {unhex("81 05"), api.ErrRlpForm}, {unhex("C4 81 20 81 05"), api.ErrRlpForm}, {unhex("C3 20 B8 05"), api.ErrRlpForm}, {unhex("C3 20 B8 38"), api.ErrRlpShort},
		{unhex("F8 02 20 01"), api.ErrRlpForm}, {make([]byte, api.MaxRlp+1), api.ErrRlpLong}, {bytes.Repeat([]byte{0xC1}, 17), api.ErrRlpShort}, {append([]byte{0xF9, 0x10, 0x00}, make([]byte, 4096)...), api.ErrRlpDeep},
		{append([]byte{0xF9, 0x0F, 0xFF}, make([]byte, 4095)...), api.ErrTrieForm}, {unhex("C2 20 01"), api.OK}, {unhex("C3 20 01 01"), api.ErrTrieForm}, {unhex("C2 20 80"), api.ErrTrieForm}, {unhex("80"), api.ErrTrieForm}, {unhex("C0"), api.ErrTrieForm},
		{append([]byte{0xF9, 0xFF, 0xFD, 0x20, 0xB9, 0xFF, 0xF9}, make([]byte, 0xFFF9)...), api.OK}, {append([]byte{0xF9, 0xFF, 0xFE, 0x20, 0xB9, 0xFF, 0xFA}, make([]byte, 0xFFFA)...), api.ErrRlpLong},
	} {
		if e := heldToWords(t, c.b); e != c.want {
			t.Errorf("P14.3: Check(%.20x): %d, not %d", c.b, e, c.want)
		}
	}
}

// TestChildren: in order, each as often as it stands there; no value is one.
func TestChildren(t *testing.T) {
	h := func(l ...byte) string {
		s := ""
		for _, x := range l {
			s += fmt.Sprintf("%x", hash(x).Bytes)
		}
		return s
	}
	for _, c := range []struct {
		x    api.Item
		want string
	}{
		{leaf("\x01", hash(9)), ""}, {way("\x01", hash(9)), h(9)}, {way("\x01", leaf("", sized(5))), ""},
		{fork(map[int]api.Item{0: hash(3), 1: hash(1), 15: hash(2)}), h(3, 1, 2)}, {fork(map[int]api.Item{4: hash(3), 5: hash(3), 8: hash(1), 9: hash(3), 16: hash(7)}), h(3, 3, 1, 3)},
		{fork(map[int]api.Item{0: leaf("\x01", sized(9)), 1: hash(1), 2: way("\x01", leaf("", sized(5))), 3: hash(0), 16: hash(7)}), h(1, 0)}, {fork(map[int]api.Item{0: leaf("", sized(9)), 16: hash(7)}), ""},
	} {
		l, e := trie.Children(encoded(c.x))
		got := ""
		for _, x := range l {
			got += fmt.Sprintf("%x", x)
		}
		if got != c.want || e != api.OK {
			t.Errorf("P14.3: Children(%x): %s, %d", encoded(c.x), got, e)
		}
	}
	all := map[int]api.Item{16: hash(99)}
	want := ""
	for i := range 16 {
		all[i] = hash(byte(200 - i))
		want += h(byte(200 - i))
	}
	l, e := trie.Children(encoded(fork(all)))
	got := ""
	for _, x := range l {
		got += fmt.Sprintf("%x", x)
	}
	if got != want || e != api.OK {
		t.Errorf("P14.3: Children of 16: %s, %d", got, e)
	}
}

// drawnRef, drawnNode: mostly nodes, now and then something that isn't one.
func drawnRef(r *rand.Rand, depth int) api.Item {
	switch r.Intn(12) {
	case 0:
		return sized(r.Intn(40))
	case 1:
		return list(slices.Repeat([]api.Item{sized(1)}, r.Intn(4))...)
	case 2, 3, 4:
		if depth > 0 {
			return drawnNode(r, depth-1)
		}
		fallthrough
	case 5, 6:
		return leaf(string(drawnPath(r, r.Intn(4))), sized(1+r.Intn(8)))
	}
	return hash(byte(r.Intn(4)))
}

func drawnNode(r *rand.Rand, depth int) api.Item {
	path := string(drawnPath(r, []int{0, 1, 2, 3, 5}[r.Intn(5)]))
	switch r.Intn(8) {
	case 0:
		return list(text(unhex([]string{"", "40", "21", "05", "1F", "2000", "00"}[r.Intn(7)])), drawnRef(r, depth))
	case 1, 2:
		return leaf(path, sized(r.Intn(40)))
	case 3, 4:
		return way(path, drawnRef(r, depth))
	case 5:
		return list(slices.Repeat([]api.Item{hash(1)}, []int{0, 1, 3, 15, 16, 17, 18, 19}[r.Intn(8)])...)
	}
	x := fork(nil)
	for range r.Intn(5) {
		x.Items[r.Intn(16)] = drawnRef(r, depth)
	}
	if r.Intn(2) == 0 {
		x.Items[16] = []api.Item{sized(r.Intn(40)), sized(2), list()}[r.Intn(3)]
	}
	return x
}

func TestCheckDrawn(t *testing.T) {
	r := rand.New(rand.NewSource(2))
	met := map[api.Errno]int{}
	for range 60000 {
		b := encoded(drawnNode(r, 3))
		if r.Intn(3) == 0 {
			switch at := r.Intn(len(b)); r.Intn(3) {
			case 0:
				b[at] ^= 1 << r.Intn(8)
			case 1:
				b = slices.Delete(b, at, at+1)
			default:
				b = slices.Insert(b, at, byte(r.Intn(256)))
			}
		}
		met[heldToWords(t, b)]++
	}
	for _, e := range []api.Errno{api.OK, api.ErrTrieForm, api.ErrRlpForm, api.ErrRlpShort, api.ErrRlpMore} {
		if met[e] < 50 {
			t.Errorf("met %d only %d times", e, met[e])
		}
	}
}
