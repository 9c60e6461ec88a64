package triedb_test

import (
	"bytes"
	"fmt"
	"math/rand"
	"slices"
	"strings"
	"testing"

	"moraine/api"
)

// places: nodes that have a value somewhere, of which the last one is the root.
func places(value []byte) map[string][]api.Node {
	inner := func(x api.Item) api.Node { return nodeOf(x) }
	short := leaf("\x01", []byte("x"))
	in := inner(leaf("\x01\x02", value))
	l := map[string][]api.Node{
		"a leaf of no nibble": {inner(leaf("", value))}, "of one": {inner(leaf("\x0F", value))}, "of two": {inner(leaf("\x0F\x00", value))}, "of 64": {inner(leaf(strings.Repeat("\x0C", 64), value))}, "of 128": {inner(leaf(strings.Repeat("\x0C", 128), value))},
		"a list of 17": {inner(fork(map[int]api.Item{2: short, 16: text(value)}))}, "a list of 17 with hashes": {inner(fork(map[int]api.Item{2: hashed(api.Hash{1}), 9: hashed(api.Hash{2}), 16: text(value)}))}, "with short lists": {inner(fork(map[int]api.Item{0: short, 1: way("\x01", short), 15: short, 16: text(value)}))},
		"below a list of 17": {in, inner(fork(map[int]api.Item{0: hashed(api.Hash{}), 7: hashed(in.Hash)}))}, "below a path": {in, inner(way("\x01\x02\x03", hashed(in.Hash)))}, "below another account": {in, inner(leaf("\x01", record(in.Hash)))},
	}
	if len(encoded(leaf("", value))) < 32 { // a list within a node
		l["a list in a path"] = []api.Node{inner(way("\x01", leaf("", value)))}
		l["a list in a list of 17"] = []api.Node{inner(fork(map[int]api.Item{0: hashed(api.Hash{1}), 3: leaf("", value), 16: sized(2)}))}
	}
	return l
}

// leads: whether a value leads to a node, in each place.
func leads(t *testing.T, what string, value []byte, target api.Node, want bool) {
	t.Helper()
	for place, l := range places(value) {
		b := newBench(t)
		count := len(l)
		if want {
			count++
		}
		root := l[len(l)-1].Hash
		b.insert(t, root, append([]api.Node{target}, l...))
		if got := len(b.x.Dirty()); got != count {
			t.Errorf("P15.1: %s in %s: %d are dirty, not %d", what, place, got, count)
		}
		if len(value) < 16000 { // a batch takes it
			b.commit(t, root)
			b.hasDirty(t, 0)
		}
	}
}

// four: a list of four strings, or of other items.
func four(a, b, c, d api.Item) []byte { return encoded(list(a, b, c, d)) }

// TestStorages: values that are the encoding of a list of four strings, the third one with 32 bytes.
func TestStorages(t *testing.T) {
	t.Parallel()
	target := nodeOf(leaf("\x05", bytes.Repeat([]byte("slot"), 10)))
	h, no := hashed(target.Hash), text(nil)
	for what, value := range map[string][]byte{
		"an account's record": record(target.Hash), "with empty strings": four(no, no, h, no), "with small bytes": four(sized(1), text([]byte{0}), h, text([]byte{0x7F})), "with 32 bytes each": four(sized(32), sized(32), h, sized(32)), "each the same": four(h, h, h, h),
		"with 31 and 33 bytes": four(sized(31), sized(33), h, sized(31)), "with 55 and 56 bytes": four(sized(55), sized(56), h, no), "with 300 bytes": four(no, sized(300), h, no), "with thousands": four(sized(10000), no, h, sized(20000)), "behind a long one": four(no, no, h, sized(30000)),
		"a payload of 55": four(no, sized(19), h, no), "of 56": four(no, sized(20), h, no), "strings that are lists' bytes": four(text([]byte{0xC0}), text(encoded(list())), h, text(record(target.Hash))),
	} {
		leads(t, what, value, target, true)
	}
}

// nearly: values that aren't quite the encoding of such a list.
func nearly(target api.Hash) map[string][]byte {
	h, no := hashed(target), text(nil)
	short := func(n int) api.Item { return text(target[:n]) }
	right := four(no, no, h, no)
	long := func(b []byte) []byte { return append([]byte{0xF8}, b...) } // with a length of its own, that isn't needed
	l := map[string][]byte{
		"the hash": target[:], "the hash as a string": encoded(h), "a list of one": encoded(list(h)), "of two": encoded(list(no, h)), "of three": encoded(list(no, no, h)), "of five": encoded(list(no, no, h, no, no)), "of five, the hash behind": encoded(list(no, no, no, h, no)), "of eight": encoded(list(no, no, h, no, no, no, h, no)),
		"the hash first": four(h, no, no, no), "second": four(no, h, no, no), "fourth": four(no, no, no, h), "all but the third": four(h, h, no, h), "31 bytes": four(no, no, short(31), no), "33 bytes": four(no, no, text(append(target[:], 0)), no), "33 bytes, a zero ahead": four(no, no, text(append([]byte{0}, target[:]...)), no), "no bytes": four(no, no, no, no), "64 bytes": four(no, no, text(append(target[:], target[:]...)), no),
		"a list first": four(list(), no, h, no), "a list second": four(no, list(no), h, no), "a list fourth": four(no, no, h, list()), "a list third": four(no, no, list(h), no), "a list of 32 bytes third": four(no, no, list(text(target[:31])), no), "a list of 32 items third": four(no, no, list(slices.Repeat([]api.Item{sized(1)}, 16)...), no),
		"a byte behind": append(slices.Clone(right), 0), "a string behind": append(slices.Clone(right), 0x80), "twice": append(slices.Clone(right), right...), "a byte ahead": append([]byte{0}, right...), "a byte too few": right[:len(right)-1], "two too few": right[:len(right)-2], "its head alone": right[:1], "half of it": right[:len(right)/2],
		"a list of it": encoded(list(list(no, no, h, no))), "a string of it": encoded(text(right)), "its payload": right[1:], "a string with its payload": encoded(text(right[1:])), "a string of lists' heads": {0x82, 0xFF, 0xFF}, "a string whose items end too early": {0x83, 0xC2, 0x83, 0x01},
		"a length that isn't needed": long(append([]byte{byte(len(right) - 1)}, right[1:]...)), "a length with a zero ahead": append([]byte{0xF9, 0, byte(len(right) - 1)}, right[1:]...), "a string with a length that isn't needed": append([]byte{0xE5, 0x80, 0x80, 0xB8, 0x20}, append(target[:], 0x80)...), "a small byte with a head": append([]byte{0xE5, 0x80, 0x81, 0x05, 0xA0}, append(target[:], 0x80)...),
		"a list that is too long by one": append([]byte{right[0] + 1}, right[1:]...), "too short by one": append([]byte{right[0] - 1}, right[1:]...), "many items": encoded(list(slices.Repeat([]api.Item{no}, 4000)...)), "too many items": append([]byte{0xF9, 0x13, 0x88}, make([]byte, 5000)...), "too deep": bytes.Repeat([]byte{0xC1}, 40),
	}
	for n := 1; n < 5; n++ { // a byte, zeros
		l[fmt.Sprint("of ", n, " zeros")] = make([]byte, n)
	}
	return l
}

// TestNearlyStorages: nothing is reached through them.
func TestNearlyStorages(t *testing.T) {
	t.Parallel()
	target := nodeOf(leaf("\x05", bytes.Repeat([]byte("slot"), 10)))
	for what, value := range nearly(target.Hash) {
		leads(t, what, value, target, false)
	}
}

// TestShortValues: all values of one byte and of two, in lists within nodes too: nothing is told of them, and nothing panics.
func TestShortValues(t *testing.T) {
	t.Parallel()
	b := newBench(t)
	var l []api.Node
	for x := range 256 {
		l = append(l, nodeOf(leaf("", []byte{byte(x)})))
		for y := range 256 {
			value := []byte{byte(x), byte(y)}
			l = append(l, nodeOf(leaf("", value)), nodeOf(way("\x01", leaf("\x02", value))))
		}
	}
	for _, n := range l {
		if err := b.x.Insert(n.Hash, []api.Node{n}); err != nil {
			t.Fatalf("P15.1: %x: %v", n.Bytes, err)
		}
	}
	b.hasDirty(t, len(l))
}

// TestDrawnValues: records that are hurt somehow lead to a node, or they don't, by the model.
func TestDrawnValues(t *testing.T) {
	t.Parallel()
	seeded(t, 8, func(t *testing.T, r *rand.Rand) {
		target := nodeOf(leaf("\x05", bytes.Repeat([]byte("slot"), 10)))
		right := 0
		for range 400 {
			value := drawnRecord(r, target.Hash)
			top := nodeOf(leaf(string(byte(r.Intn(16))), value))
			if r.Intn(2) == 0 {
				top = nodeOf(fork(map[int]api.Item{r.Intn(16): hashed(api.Hash{1}), 16: text(value)}))
			}
			b := newBench(t)
			b.insert(t, top.Hash, []api.Node{top, target})
			right += len(b.x.Dirty()) - 1
		}
		if right < 50 || right > 350 {
			t.Errorf("%d of 400 lead to it", right)
		}
	})
}

// drawnRecord: mostly a list of four strings, with this or that third one; often with a byte that is changed, more or fewer.
func drawnRecord(r *rand.Rand, target api.Hash) []byte {
	count := []int{4, 4, 4, 4, 3, 5}[r.Intn(6)]
	var x []api.Item
	for range count {
		x = append(x, sized([]int{0, 1, 2, 32, 55, 56, 200}[r.Intn(7)]))
	}
	x[2] = hashed(target)
	if r.Intn(10) == 0 {
		x[r.Intn(count)] = list(sized(2))
	}
	b := encoded(list(x...))
	switch at := r.Intn(len(b)); r.Intn(6) {
	case 0:
		b[at] ^= 1 << r.Intn(8)
	case 1:
		b = slices.Delete(b, at, at+1)
	case 2:
		b = slices.Insert(b, at, byte(r.Intn(256)))
	}
	return b
}

// TestChildren: all of a list of 17 are reached, those of a path, and what is in lists within a node leads nowhere.
func TestChildren(t *testing.T) {
	t.Parallel()
	var l []api.Node
	refs := map[int]api.Item{16: sized(5)}
	for i := range 16 {
		l = append(l, nodeOf(leaf("\x01", bytes.Repeat([]byte{byte(i + 1)}, 40))))
		refs[i] = hashed(l[i].Hash)
	}
	wide := nodeOf(fork(refs))
	top := nodeOf(way("\x01\x02", hashed(wide.Hash)))
	b := newBench(t)
	b.insert(t, top.Hash, append(slices.Clone(l), wide, top))
	b.hasDirty(t, 18)
	for i := range 16 { // all but one
		b = newBench(t)
		b.insert(t, top.Hash, append(without(l, l[i].Hash), top, wide))
		b.hasDirty(t, 17)
	}
	// The same child, in several places, and beside lists that stand in the node.
	short := leaf("\x01", []byte("x"))
	twice := nodeOf(fork(map[int]api.Item{0: short, 3: hashed(l[4].Hash), 4: hashed(l[4].Hash), 5: way("\x02", short), 9: hashed(l[5].Hash), 16: text(record(l[6].Hash))}))
	b = newBench(t)
	b.insert(t, twice.Hash, append(slices.Clone(l), twice))
	b.hasDirty(t, 4)
	b.commit(t, twice.Hash)
	b.drained(t)
}

// TestLongWays: as many nodes below one another as DOC.md's rule 8 allows.
func TestLongWays(t *testing.T) {
	t.Parallel()
	const count = 1 << 16
	below := nodeOf(leaf("\x01", bytes.Repeat([]byte("end"), 20)))
	l := []api.Node{below}
	for len(l) < count {
		x := way("\x01", hashed(below.Hash))
		if len(l)%2 == 0 {
			x = leaf("\x01", record(below.Hash))
		}
		below = nodeOf(x)
		l = append(l, below)
	}
	b := newBench(t)
	for range 2 {
		if err := b.x.Insert(below.Hash, l); err != nil {
			t.Fatal(err)
		}
		b.hasDirty(t, count)
	}
	for i, want := range []int{count, 0} {
		if err := b.x.Drop(below.Hash); err != nil {
			t.Fatal(err)
		}
		if got := len(b.x.Dirty()); got != want {
			t.Fatalf("P15.2: behind Drop %d: %d, not %d", i, got, want)
		}
	}
}
