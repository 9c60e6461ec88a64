package snap_test

import (
	"fmt"
	"maps"
	"math/rand"
	"slices"
	"strings"
	"testing"

	"moraine/api"
	"moraine/trie"
)

// drawNodes draws nodes that refer to one another, some of them at several depths, so that some keys have 32 bytes.
func drawNodes(r *rand.Rand, storages []api.Hash) []api.Node {
	value := func() string {
		if len(storages) > 0 && r.Intn(2) == 0 {
			return record(r.Intn(3), storages[r.Intn(len(storages))])
		}
		return drawValue(r)
	}
	drawPath := func(size int) string {
		var b []byte
		for range size {
			b = append(b, byte(r.Intn(3)))
		}
		return string(b)
	}
	var made []api.Item
	for range 2 + r.Intn(3) {
		made = append(made, leaf(drawPath(58+r.Intn(8)), value()))
	}
	some := func() api.Item {
		x := made[r.Intn(len(made))]
		if len(encoded(x)) >= 32 {
			h := nodeOf(x).Hash
			return hashed(h)
		}
		return x
	}
	for range 8 {
		if r.Intn(3) == 0 {
			made = append(made, way(drawPath(1+r.Intn(3)), some()))
			continue
		}
		parts := map[int]api.Item{r.Intn(4): some(), 4 + r.Intn(12): some()}
		for range r.Intn(4) {
			parts[r.Intn(16)] = some()
		}
		if r.Intn(4) == 0 {
			parts[16] = text([]byte(value()))
		}
		if r.Intn(4) == 0 {
			parts[r.Intn(16)] = leaf(drawPath(r.Intn(4)), "in")
		}
		made = append(made, fork(parts))
	}
	var l []api.Node
	for _, x := range made {
		if n := nodeOf(x); trie.Check(n.Bytes) == api.OK {
			l = append(l, n)
		}
	}
	return l
}

// TestOddNodes: tries that no map has: nodes that stand at several depths, values in between, keys of other lengths.
func TestOddNodes(t *testing.T) {
	t.Parallel()
	seeded(t, 80, func(t *testing.T, r *rand.Rand) {
		b := newBench(t, greatOptions())
		below := drawNodes(r, nil)
		var storages []api.Hash
		for _, n := range below {
			storages = append(storages, n.Hash)
		}
		nodes := drawNodes(r, storages)
		b.put(t, below...)
		b.put(t, nodes...)
		if r.Intn(3) == 0 {
			b.lose(t, below[r.Intn(len(below))].Hash)
		}
		entries := 0
		for _, n := range nodes {
			l := b.have.world(n.Hash)
			if entries += len(l); len(l) > 3000 {
				continue
			}
			b.reset(t, n.Hash)
			b.keys = nil
			for _, e := range l {
				if e.wrong == api.OK {
					b.keys = append(b.keys, e.key)
				}
			}
			for range 4 {
				b.generate(t, 1+r.Intn(1+len(l)/3))
				b.agrees(t)
			}
			if r.Intn(2) == 0 { // generating goes on at a key that the other trie need not have
				other := nodes[r.Intn(len(nodes))].Hash
				b.update(t, n.Hash, other, changes(b.have.flat(n.Hash), b.have.flat(other)))
				b.flatten(t, other, 0)
				b.agrees(t)
			}
			b.generate(t, 3000)
			b.agrees(t)
			b.recorded(t)
		}
		if entries == 0 {
			t.Log("no entries")
		}
	})
}

// TestManyPaths: a few nodes make very many paths: those without an entry are gone through, and those with many are, as far as they are asked for.
func TestManyPaths(t *testing.T) {
	t.Parallel()
	for _, length := range []int{62, 66} {
		x := leaf(strings.Repeat("\x07", length-50), "value")
		b := newBench(t, options())
		for range 50 {
			n := nodeOf(x)
			b.put(t, n)
			x = list(append(slices.Repeat([]api.Item{hashed(n.Hash)}, 16), text(nil))...)
		}
		barren := nodeOf(x)
		b.put(t, barren)
		b.reset(t, barren.Hash)
		if done, err := b.x.Generate(b.nodes, 1); !done || err != nil || len(recordsIn(t, b.store)) > 0 {
			t.Errorf("P17.2: %v, %v", done, err)
		}
		// The same as accounts' storage.
		accounts := map[string]string{}
		for i := range 20 {
			accounts[strings.Repeat(string(rune('a'+i)), 32)] = record(i, barren.Hash)
		}
		root, nodes := laid(accounts)
		b.put(t, nodes...)
		b.reset(t, root)
		if done, err := b.x.Generate(b.nodes, 20); !done || err != nil || len(recordsIn(t, b.store)) != 20 {
			t.Errorf("P17.2: %v, %v", done, err)
		}
	}
	b := newBench(t, options())
	storage, below := manyPaths(60, "slot")
	root, nodes := manyPaths(60, record(1, storage))
	b.put(t, below...)
	b.put(t, nodes...)
	b.reset(t, root)
	for count := range 10 {
		if done, err := b.x.Generate(b.nodes, 7); done || err != nil || len(recordsIn(t, b.store)) != 7*(count+1) {
			t.Fatalf("P17.2: %v, %v", done, err)
		}
	}
	keys := slices.Sorted(maps.Keys(recordsIn(t, b.store)))
	account := strings.Repeat("\x00", 30) + "\x77\x77"
	if keys[0] != account || keys[1] != account+account || keys[69] != account+strings.Repeat("\x00", 29)+"\x44\x77\x77" {
		t.Errorf("P17.2: %x, %x, .., %x", keys[0], keys[1], keys[69])
	}
}

// TestDepths: what isn't below 64 nibbles, and what is: a node that isn't there matters where a key of 32 bytes may hang on it.
func TestDepths(t *testing.T) {
	t.Parallel()
	gone := hashed(api.Hash{0xFF})
	path := strings.Repeat("\x01", 64)
	end := fork(map[int]api.Item{3: gone, 16: text([]byte("here"))})
	n, one := nodeOf(end), nodeOf(leaf(path[1:], "a"))
	for i, x := range []struct {
		root    api.Item
		entries int
		want    api.Errno
	}{
		{way(path, gone), 0, api.ErrTrieNode},
		{way(path[1:], gone), 0, api.ErrTrieNode},
		{way(path+"\x01", gone), 0, api.OK},
		{way(path+path, gone), 0, api.OK},
		{way(path, hashed(n.Hash)), 1, api.OK},
		{way(path[1:], hashed(n.Hash)), 0, api.ErrTrieNode},
		{way(path[2:], hashed(n.Hash)), 0, api.ErrTrieNode},
		{way(path[1:], fork(map[int]api.Item{0: leaf("", "a"), 15: leaf("", "b")})), 2, api.OK},
		{way(path[1:], fork(map[int]api.Item{0: leaf("", "a"), 15: leaf("", "b"), 16: text([]byte("c"))})), 2, api.OK},
		{way(path, fork(map[int]api.Item{0: leaf("\x01", "a"), 16: text([]byte("c"))})), 1, api.OK},
		{leaf(path, "a"), 1, api.OK},
		{leaf(path[1:], "a"), 0, api.OK},
		{leaf(path+"\x01\x01", "a"), 0, api.OK},
		{leaf("", "a"), 0, api.OK},
		{fork(map[int]api.Item{0: hashed(one.Hash), 2: hashed(one.Hash)}), 2, api.OK},
		{fork(map[int]api.Item{0: hashed(one.Hash), 2: gone}), 0, api.ErrTrieNode},
		{fork(map[int]api.Item{0: gone, 2: hashed(one.Hash)}), 0, api.ErrTrieNode},
		{fork(map[int]api.Item{0: leaf(path[1:], "a"), 2: hashed(one.Hash)}), 0, api.ErrTrieForm}, // it has no room there
	} {
		b := newBench(t, options())
		root := nodeOf(x.root)
		b.put(t, n, one, root)
		b.seek(path)
		b.reset(t, root.Hash)
		done, err := b.x.Generate(b.nodes, 9)
		if !is(err, x.want) || done != (x.want == api.OK) {
			t.Errorf("P17.2: %d: %v, %v", i, done, err)
		}
		if got := len(recordsIn(t, b.store)); x.want == api.OK && got != x.entries || x.want != api.OK && got > 0 {
			t.Errorf("P17.2: %d: %d entries", i, got)
		}
		b.m.generate(b.have, 9)
		b.agrees(t)
	}
}

// TestOneByOneInside: entries that stand within one node, and behind one another in it.
func TestOneByOneInside(t *testing.T) {
	t.Parallel()
	b := newBench(t, options())
	l := ledger{}
	for i := range 16 {
		key := strings.Repeat("k", 31) + string(rune(i*7))
		l[key] = account{value: fmt.Sprint(i)}
	}
	root := b.lay(t, l)
	b.reset(t, root)
	for range 16 {
		b.generate(t, 1)
		b.agrees(t)
	}
	if !b.x.Done() {
		t.Error("P17.2: it isn't done")
	}
}

// TestSharedNodes: a node that has nothing any more at one path, because generating goes on behind it, and something at another one.
func TestSharedNodes(t *testing.T) {
	t.Parallel()
	b := newBench(t, options())
	shared := nodeOf(leaf(strings.Repeat("\x05", 63), strings.Repeat("v", 40)))
	other := nodeOf(fork(map[int]api.Item{0: hashed(shared.Hash), 1: hashed(shared.Hash)}))
	root := b.lay(t, ledger{"\x01" + strings.Repeat("\x11", 31): {value: "a"}, "\x06" + strings.Repeat("\x66", 31): {value: "b"}})
	b.put(t, shared, other)
	b.reset(t, root)
	b.generate(t, 1)
	b.update(t, root, other.Hash, changes(b.have.flat(root), b.have.flat(other.Hash)))
	b.flatten(t, other.Hash, 0)
	b.seek("\x05"+strings.Repeat("\x55", 31), "\x15"+strings.Repeat("\x55", 31))
	b.agrees(t)
	b.generate(t, 5)
	b.agrees(t)
	if got := recordsIn(t, b.store); len(got) != 2 || !b.x.Done() {
		t.Errorf("P17.2: %d entries", len(got))
	}
}
