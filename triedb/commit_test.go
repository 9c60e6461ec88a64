package triedb_test

import (
	"bytes"
	"slices"
	"testing"

	"moraine/api"
	"moraine/rawdb"
	"moraine/trie"
)

// TestCommitOfOthers: roots that aren't held: those that are clean, and Empty(), are taken, others aren't.
func TestCommitOfOthers(t *testing.T) {
	t.Parallel()
	b := newBench(t)
	root, l := made("a", "b")
	other, m := made("c", "d")
	b.put(t, m...)
	b.insert(t, root, l)
	for _, c := range []struct {
		h    api.Hash
		want api.Errno
	}{{other, api.OK}, {m[0].Hash, api.OK}, {trie.Empty(), api.OK}, {l[0].Hash, api.ErrTriedbRoot}, {l[1].Hash, api.ErrTriedbRoot}, {api.Hash{}, api.ErrTriedbRoot}, {api.Hash{31: 1}, api.ErrTriedbRoot}} {
		if got := b.commit(t, c.h); got != c.want {
			t.Errorf("P15.2: Commit(%x): %d, not %d", c.h, got, c.want)
		}
		b.hasDirty(t, 3)
	}
	b.take(t, other)
	if b.commit(t, other) != api.ErrTriedbRoot {
		t.Error("P15.2: a root that is clean no more")
	}
	b.drop(t, root)
	if b.commit(t, root) != api.ErrTriedbRoot {
		t.Error("P15.2: a root that was dropped")
	}
}

// TestCommitOfOthersDirty: a root that is clean, and not held, with what is dirty nevertheless.
func TestCommitOfOthersDirty(t *testing.T) {
	t.Parallel()
	b := newBench(t)
	root, l := made("a", "b")
	b.insert(t, root, l)
	b.put(t, l[0]) // it stays dirty, too
	if b.commit(t, l[0].Hash) != api.OK {
		t.Error("P15.2: it is clean")
	}
	b.hasDirty(t, 2)
}

// TestCommitTwice: in a row: the second one has nothing to write; the root stays held.
func TestCommitTwice(t *testing.T) {
	t.Parallel()
	b := newBench(t)
	root, l := made("a", "b", "c")
	b.insert(t, root, l)
	b.insert(t, root, nil)
	for range 3 {
		last := b.store.Last()
		b.commit(t, root)
		b.hasDirty(t, 0)
		if last > 0 && b.store.Last() != last {
			t.Error("P15.2: nodes are written that aren't dirty")
		}
	}
	b.insert(t, root, l)
	b.hasDirty(t, 0)
	for i := range 4 {
		want := api.OK
		if i == 3 {
			want = api.ErrTriedbRoot
		}
		if got := b.drop(t, root); got != want {
			t.Errorf("P15.2: Drop %d behind Commit: %d", i, got)
		}
	}
	if b.commit(t, root) != api.OK { // it is clean
		t.Error("P15.2: Commit behind the last Drop")
	}
}

// TestCommitPartly: some nodes are clean already.
func TestCommitPartly(t *testing.T) {
	t.Parallel()
	root, l := made("a", "b", "c")
	for clean := range 16 {
		b := newBench(t)
		for i, n := range l {
			if clean>>i&1 == 1 {
				b.put(t, n)
			}
		}
		b.insert(t, root, l)
		count := len(b.x.Dirty())
		b.commit(t, root)
		if clean>>3 == 1 { // what stands below a clean root isn't reached through dirty nodes
			b.hasDirty(t, count)
			b.insert(t, l[0].Hash, nil)
			b.commit(t, l[0].Hash)
			b.drop(t, root)
		}
		b.hasDirty(t, 0)
	}
}

// TestCommitOfNothing: a root that is held, with none of its nodes.
func TestCommitOfNothing(t *testing.T) {
	t.Parallel()
	b := newBench(t)
	root, l := made("a", "b", "c")
	b.insert(t, root, l[:2])
	if b.commit(t, root) != api.OK {
		t.Error("P15.2: it is held")
	}
	b.insert(t, root, l[2:])
	b.hasDirty(t, 2)
	b.commit(t, root)
	b.hasDirty(t, 0)
	b.insert(t, root, l) // below a clean root, with it in the list
	b.hasDirty(t, 2)
	b.drained(t)
}

// TestOthersStayDirty: what other roots have beside it stays dirty, and stays when the root is dropped.
func TestOthersStayDirty(t *testing.T) {
	t.Parallel()
	b := newBench(t)
	one, l := made("a", "b", "c")
	two, m := made("a", "x", "y")
	three, n := made("p", "q")
	b.insert(t, one, l)
	b.insert(t, two, m)
	b.insert(t, three, n)
	b.hasDirty(t, 10)
	b.commit(t, two)
	b.hasDirty(t, 6)
	b.drop(t, two)
	b.hasDirty(t, 6)
	b.commit(t, three)
	b.hasDirty(t, 3)
	b.commit(t, one)
	b.hasDirty(t, 0)
	for _, root := range []api.Hash{one, three} {
		if b.drop(t, root) != api.OK {
			t.Error("P15.2: held roots stay held")
		}
	}
}

// TestHeldBehindCommit: a root that is held behind its Commit holds its nodes, if they become dirty again.
func TestHeldBehindCommit(t *testing.T) {
	t.Parallel()
	b := newBench(t)
	root, l := made("a", "b", "c")
	b.insert(t, root, l)
	b.commit(t, root)
	for _, x := range l {
		b.take(t, x.Hash)
	}
	b.insert(t, l[0].Hash, l)
	b.hasDirty(t, 1)
	b.insert(t, root, l)
	b.drop(t, root)
	b.hasDirty(t, 4)
	b.drop(t, l[0].Hash)
	b.hasDirty(t, 4)
	b.drop(t, root)
	b.hasDirty(t, 0)
}

// TestCommitStorage: the storages of accounts are written with them.
func TestCommitStorage(t *testing.T) {
	t.Parallel()
	b := newBench(t)
	one, l := made("s", "t")
	two, m := made("s", "u", "v")
	accounts := trie.New(trie.Empty(), nil)
	for i, storage := range []api.Hash{one, two, trie.Empty(), one} {
		if e := accounts.Put([]byte{byte(i)}, record(storage)); e != api.OK {
			t.Fatal(e)
		}
	}
	all := slices.Concat(l, m, accounts.Nodes())
	b.insert(t, accounts.Root(), all)
	b.insert(t, two, nil)
	b.hasDirty(t, len(l)+len(m)-1+len(accounts.Nodes()))
	b.commit(t, two)
	b.hasDirty(t, len(l)-1+len(accounts.Nodes()))
	b.commit(t, accounts.Root())
	b.hasDirty(t, 0)
	b.d.Restart(api.Crash{})
	b.open(t)
	b.agrees(t)
	for _, n := range all {
		if got, ok, err := b.x.Get(n.Hash); !bytes.Equal(got, n.Bytes) || !ok || err != nil {
			t.Errorf("P15.4: %x, %v, %v", got, ok, err)
		}
	}
}

// nodeSized: a leaf of so many bytes, unlike others of another mark.
func nodeSized(size int, mark byte) api.Node {
	value := bytes.Repeat([]byte{mark}, size-7)
	n := nodeOf(leaf("", value))
	for len(n.Bytes) < size {
		value = append(value, mark)
		n = nodeOf(leaf("", value))
	}
	return n
}

// batchOf: nodes that all hang on one, which come to so many bytes as operations of a batch; the root is the last one.
func batchOf(t *testing.T, size int) []api.Node {
	t.Helper()
	const width, each = 256, 16300
	cost := func(n api.Node) int { return len(rawdb.NodeKey(n.Hash)) + len(n.Bytes) + 24 }
	var l []api.Node
	leaves := 0
	left := size - 16*(57+532) - (57 + 532) // lists of 17, full ones
	var tops []api.Item
	for range 16 {
		refs := map[int]api.Item{}
		for i := range 16 {
			part := min(left/(width-leaves)-57, each)
			n := nodeSized(part, byte(leaves))
			left -= cost(n)
			leaves++
			l = append(l, n)
			refs[i] = hashed(n.Hash)
		}
		n := nodeOf(fork(refs))
		l = append(l, n)
		tops = append(tops, hashed(n.Hash))
	}
	refs := map[int]api.Item{}
	for i, x := range tops {
		refs[i] = x
	}
	l = append(l, nodeOf(fork(refs)))
	sum := 0
	for _, n := range l {
		sum += cost(n)
	}
	if sum != size {
		t.Fatalf("a batch of %d bytes, not %d", sum, size)
	}
	return l
}

// TestCommitTooMany: as much as a batch takes, and more.
func TestCommitTooMany(t *testing.T) {
	t.Parallel()
	for more, want := range []api.Errno{api.OK, api.ErrLsmBatch, api.ErrLsmBatch} {
		l := batchOf(t, api.MaxRecord-64+more)
		root := l[len(l)-1].Hash
		b := benchOn(t, newDisk(t, 1<<24), greatOptions())
		part, m := made("a", "b")
		for _, err := range []error{b.x.Insert(root, l), b.x.Insert(part, m)} {
			if err != nil {
				t.Fatal(err)
			}
		}
		b.hasDirty(t, len(l)+3)
		for range 2 {
			err := b.x.Commit(root)
			if !is(err, want) {
				t.Fatalf("P15.2: Commit of %d more bytes than a batch takes: %v", more, err)
			}
			if want == api.OK {
				b.hasDirty(t, 3)
				continue
			}
			b.hasDirty(t, len(l)+3)
			if b.store.Last() != 0 {
				t.Error("P15.2: something was written")
			}
		}
		for _, n := range l {
			if got, ok, err := b.x.Get(n.Hash); !bytes.Equal(got, n.Bytes) || !ok || err != nil {
				t.Fatalf("P15.3: %.20x, %v, %v", got, ok, err)
			}
		}
		// The store isn't hurt by it: others are committed, and parts of it are.
		for _, h := range []api.Hash{part, l[0].Hash} {
			if err := b.x.Insert(h, nil); err != nil {
				t.Fatal(err)
			}
			if err := b.x.Commit(h); err != nil {
				t.Errorf("P15.2: %v", err)
			}
		}
		if err := b.x.Commit(root); err != nil {
			t.Errorf("P15.2: what is left of it is less than a batch takes: %v", err)
		}
		b.hasDirty(t, 0)
	}
}

// TestCommitTooLong: a node that is as long as a value of the store may be, and longer.
func TestCommitTooLong(t *testing.T) {
	t.Parallel()
	for _, c := range []struct {
		size int
		want api.Errno
	}{{api.MaxValue - 1, api.OK}, {api.MaxValue, api.OK}, {api.MaxValue + 1, api.ErrLsmBatch}, {api.MaxRlp, api.ErrLsmBatch}} {
		n := nodeSized(c.size, 1)
		top := nodeOf(fork(map[int]api.Item{1: hashed(n.Hash), 16: sized(4)}))
		b := newBench(t)
		if err := b.x.Insert(top.Hash, []api.Node{n, top}); err != nil {
			t.Fatal(err)
		}
		b.hasDirty(t, 2)
		if err := b.x.Commit(top.Hash); !is(err, c.want) {
			t.Errorf("P15.2: Commit of a node of %d bytes: %v", c.size, err)
		}
		if c.want != api.OK {
			b.hasDirty(t, 2)
		}
		if got, ok, err := b.x.Get(n.Hash); !bytes.Equal(got, n.Bytes) || !ok || err != nil {
			t.Errorf("P15.3: a node of %d bytes: %v, %v", c.size, ok, err)
		}
		if _, ok, err := b.store.Get(rawdb.NodeKey(top.Hash)); ok != (c.want == api.OK) || err != nil {
			t.Errorf("P15.2: %v, %v", ok, err)
		}
	}
}
