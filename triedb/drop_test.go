package triedb_test

import (
	"bytes"
	"slices"
	"testing"

	"moraine/api"
	"moraine/trie"
)

// TestDropOfNone: roots that aren't held, though their nodes are dirty or clean.
func TestDropOfNone(t *testing.T) {
	t.Parallel()
	b := newBench(t)
	root, l := made("a", "b")
	other, m := made("c", "d")
	b.put(t, m...)
	b.insert(t, root, l)
	for _, h := range []api.Hash{l[0].Hash, l[1].Hash, other, m[0].Hash, trie.Empty(), {}} {
		if b.drop(t, h) != api.ErrTriedbRoot {
			t.Errorf("P15.2: %x is held", h)
		}
		b.hasDirty(t, 3)
	}
	if b.drop(t, root) != api.OK || b.drop(t, root) != api.ErrTriedbRoot {
		t.Error("P15.2: Drop of what is held")
	}
	b.hasDirty(t, 0)
}

// TestDropOfTwo: roots that share nodes, in each order.
func TestDropOfTwo(t *testing.T) {
	t.Parallel()
	one, l := made("a", "b", "c", "d")
	two, m := made("a", "b", "x", "y")
	for order := range 2 {
		b := newBench(t)
		b.insert(t, one, l)
		b.insert(t, two, m)
		b.hasDirty(t, 8)
		b.insert(t, one, l)
		first, second := one, two
		if order == 1 {
			first, second = two, one
		}
		b.drop(t, first)
		b.hasDirty(t, 8-3*order)
		b.drop(t, second)
		b.hasDirty(t, 5)
		b.drop(t, one)
		b.hasDirty(t, 0)
	}
}

// TestDropWithin: a root that is reached from another one, which is held too: each as often as it is held.
func TestDropWithin(t *testing.T) {
	t.Parallel()
	slot := nodeOf(leaf("\x01", bytes.Repeat([]byte("s"), 40)))
	account := nodeOf(leaf("\x02", record(slot.Hash)))
	l := []api.Node{account, slot}
	b := newBench(t)
	b.insert(t, account.Hash, l)
	b.insert(t, slot.Hash, l)
	b.drop(t, account.Hash)
	b.hasDirty(t, 1)
	b.insert(t, account.Hash, l)
	b.drop(t, slot.Hash)
	b.hasDirty(t, 2)
	b.drop(t, account.Hash)
	b.hasDirty(t, 0)
}

// TestDropSweeps: what no held root reaches through dirty nodes goes by any Drop, also what was reached through clean nodes, when it was inserted.
func TestDropSweeps(t *testing.T) {
	t.Parallel()
	root, l := made("a", "b", "c")
	other, m := made("d", "e")
	b := newBench(t)
	b.put(t, l[3])
	b.insert(t, root, l)
	b.insert(t, other, m)
	b.hasDirty(t, 6)
	b.insert(t, other, nil)
	b.drop(t, other)
	b.hasDirty(t, 3)
	b.insert(t, root, l)
	b.hasDirty(t, 6)
	b.insert(t, l[1].Hash, nil)
	b.drop(t, root)
	b.hasDirty(t, 4)
	b.drained(t)
}

// TestDropBehindCommit: what is clean stays; what stands below it dirty isn't reached.
func TestDropBehindCommit(t *testing.T) {
	t.Parallel()
	one, l := made("a", "b", "c")
	two, m := made("a", "b", "x")
	b := newBench(t)
	b.insert(t, one, l)
	b.insert(t, two, m)
	b.commit(t, one)
	b.hasDirty(t, 2)
	b.drop(t, one)
	b.hasDirty(t, 2)
	b.drop(t, two)
	b.hasDirty(t, 0)
	if b.commit(t, one) != api.OK || b.commit(t, two) != api.ErrTriedbRoot {
		t.Error("P15.2: Commit of what was dropped")
	}
	// Inserted again, it is as it was.
	b.insert(t, two, m)
	b.hasDirty(t, 2)
	b.commit(t, two)
	for _, n := range append(slices.Clone(l), m...) {
		if got, ok, err := b.x.Get(n.Hash); !bytes.Equal(got, n.Bytes) || !ok || err != nil {
			t.Errorf("P15.2: %x, %v, %v", got, ok, err)
		}
	}
}
