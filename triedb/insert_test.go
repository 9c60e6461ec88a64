package triedb_test

import (
	"bytes"
	"fmt"
	"slices"
	"testing"

	"moraine/api"
	"moraine/keccak"
	"moraine/trie"
)

// TestNew: nothing is dirty, no root is held, whatever the store has, and whatever another DB over it has.
func TestNew(t *testing.T) {
	t.Parallel()
	b := newBench(t)
	b.agrees(t)
	root, l := made("a", "b")
	for _, h := range []api.Hash{root, trie.Empty(), {}} {
		if b.drop(t, h) != api.ErrTriedbRoot {
			t.Errorf("P15.1: %x is held", h)
		}
	}
	b.put(t, l[0])
	b.insert(t, root, l)
	b.hasDirty(t, 2)
	b.open(t)
	b.agrees(t)
	b.drained(t)
}

// TestExample: the chapter's: two tries that share a node.
func TestExample(t *testing.T) {
	t.Parallel()
	b := newBench(t)
	one, l := made("a", "b")
	two, m := made("a", "c")
	b.insert(t, one, l)
	b.hasDirty(t, 3)
	b.insert(t, two, m)
	b.hasDirty(t, 5)
	shared := l[0]
	if m[0].Hash != shared.Hash {
		t.Fatal("no node is shared")
	}
	b.drop(t, one)
	b.hasDirty(t, 3)
	if !slices.Contains(b.x.Dirty(), shared.Hash) {
		t.Error("P15.2: the shared node isn't dirty any more")
	}
	if b.commit(t, two) != api.OK {
		t.Error("P15.2: Commit of the other one")
	}
	b.hasDirty(t, 0)
	for _, n := range m {
		if got, ok, err := b.x.Get(n.Hash); !bytes.Equal(got, n.Bytes) || !ok || err != nil {
			t.Errorf("P15.2: %x, %v, %v", got, ok, err)
		}
	}
}

// hurtNodes: what Insert refuses.
func hurtNodes() map[string]api.Node {
	right := nodeOf(leaf("\x01", []byte("value")))
	of := func(b []byte) api.Node { return api.Node{Hash: keccak.Sum(b), Bytes: b} }
	other := right
	other.Hash[31] ^= 1
	first := right
	first.Hash[0] ^= 0x80
	longer := append(slices.Clone(right.Bytes), 0)
	return map[string]api.Node{
		"a hash with another last bit": other, "with another first bit": first, "the hash 0": {Bytes: right.Bytes}, "the hash of nothing": {Hash: keccak.Sum(), Bytes: right.Bytes}, "the hash of other bytes": {Hash: of(longer).Hash, Bytes: right.Bytes},
		"no bytes": {Hash: right.Hash}, "nothing": {}, "no bytes, with their hash": of(nil), "the empty string": of([]byte{0x80}), "the empty list": of([]byte{0xC0}), "a string": of(encoded(sized(40))),
		"a byte behind": of(longer), "a byte too few": of(right.Bytes[:len(right.Bytes)-1]), "a leaf without a value": of(encoded(leaf("\x01", nil))), "a list of 4": of(record(api.Hash{1})), "a list of 17 with one": of(encoded(fork(map[int]api.Item{3: hashed(api.Hash{1})}))),
		"another spelling": of([]byte{0xC4, 0x20, 0x81, 0x05, 0x01}), "a long length of a short list": of(append([]byte{0xF8}, append([]byte{byte(len(right.Bytes) - 1)}, right.Bytes[1:]...)...)), "a path above a value": of(encoded(list(packed("\x01", false), sized(5)))),
		"too long": of(make([]byte, api.MaxRlp+1)), "too deep": of(append([]byte{0xF9, 0x10, 0x00}, make([]byte, 4096)...)),
	}
}

// TestInsertRefuses: nodes that aren't right, wherever they stand, reached or not; nothing changes by it.
func TestInsertRefuses(t *testing.T) {
	t.Parallel()
	root, l := made("a", "b", "c")
	other, m := made("d", "e")
	for what, hurt := range hurtNodes() {
		t.Run(what, func(t *testing.T) {
			t.Parallel()
			b := newBench(t)
			b.put(t, m[1])
			b.insert(t, other, m)
			b.hasDirty(t, 2)
			for at := range len(l) + 1 {
				for _, top := range []api.Hash{root, hurt.Hash, other, trie.Empty()} {
					if b.insert(t, top, slices.Insert(slices.Clone(l), at, hurt)) != api.ErrTrieForm {
						t.Errorf("P15.1: at %d it was taken", at)
					}
				}
				if at < len(l) { // in the place of a node, with its hash
					part := slices.Clone(l)
					part[at].Bytes = hurt.Bytes
					if b.insert(t, root, part) != api.ErrTrieForm {
						t.Errorf("P15.1: in the place of %d it was taken", at)
					}
				}
			}
			if b.insert(t, root, []api.Node{hurt}) != api.ErrTrieForm || b.insert(t, root, append(slices.Clone(l), l[0], hurt, l[0])) != api.ErrTrieForm {
				t.Error("P15.1: it was taken")
			}
			if b.drop(t, root) != api.ErrTriedbRoot {
				t.Error("P15.1: a refused Insert holds its root")
			}
			b.drained(t)
		})
	}
}

// TestInsertUnreached: nodes that no way leads to from the root don't become dirty.
func TestInsertUnreached(t *testing.T) {
	t.Parallel()
	b := newBench(t)
	root, l := made("a", "b", "c")
	_, m := made("d", "e")
	b.insert(t, root, append(slices.Clone(m), l...))
	b.hasDirty(t, 4)
	// The root isn't among the nodes: nothing is reached but it.
	b = newBench(t)
	b.insert(t, root, without(l, root))
	b.hasDirty(t, 0)
	b.insert(t, root, m)
	b.hasDirty(t, 0)
	b.insert(t, api.Hash{}, l)
	b.hasDirty(t, 0)
	// A node is the root: what is below it is reached, what is above it isn't.
	b.insert(t, l[1].Hash, l)
	b.hasDirty(t, 1)
	// The root alone: what is missing may come later, below the root that is dirty.
	b = newBench(t)
	b.insert(t, root, l[3:])
	b.hasDirty(t, 1)
	b.insert(t, root, l[:1])
	b.hasDirty(t, 2)
	b.insert(t, l[1].Hash, without(l, root))
	b.hasDirty(t, 3)
	b.insert(t, root, l)
	b.hasDirty(t, 4)
	b.drained(t)
}

// TestInsertOfNone: of no nodes, a root is held nevertheless.
func TestInsertOfNone(t *testing.T) {
	t.Parallel()
	b := newBench(t)
	root, _ := made("a", "b")
	for _, l := range [][]api.Node{nil, {}} {
		b.insert(t, root, l)
		if b.drop(t, root) != api.OK || b.drop(t, root) != api.ErrTriedbRoot {
			t.Error("P15.1: of no nodes")
		}
	}
}

// TestInsertEmpty: the root Empty() is held as others are, and reaches nothing.
func TestInsertEmpty(t *testing.T) {
	t.Parallel()
	b := newBench(t)
	_, l := made("a", "b")
	b.insert(t, trie.Empty(), nil)
	b.insert(t, trie.Empty(), l)
	b.hasDirty(t, 0)
	if b.commit(t, trie.Empty()) != api.OK {
		t.Error("P15.2: Commit of Empty()")
	}
	if got := fmt.Sprint(b.drop(t, trie.Empty()), b.drop(t, trie.Empty()), b.drop(t, trie.Empty())); got != "error 0 error 0 error 150" {
		t.Errorf("P15.1: %s", got)
	}
	if b.commit(t, trie.Empty()) != api.OK {
		t.Error("P15.2: Commit of Empty(), which isn't held")
	}
}

// TestInsertTwice: a root is held as often as it was inserted, with whatever nodes.
func TestInsertTwice(t *testing.T) {
	t.Parallel()
	for count := 1; count < 6; count++ {
		b := newBench(t)
		root, l := made("a", "b", "c")
		for i := range count {
			switch i % 3 {
			case 0:
				b.insert(t, root, l)
			case 1:
				b.insert(t, root, nil)
			case 2:
				b.insert(t, root, append(slices.Clone(l), l...))
			}
			b.hasDirty(t, 4)
		}
		for i := range count {
			b.hasDirty(t, 4)
			if b.drop(t, root) != api.OK {
				t.Errorf("P15.1: %d of %d", i, count)
			}
		}
		b.hasDirty(t, 0)
		if b.drop(t, root) != api.ErrTriedbRoot {
			t.Errorf("P15.1: held more often than %d times", count)
		}
	}
}

// TestInsertClean: nodes that are clean don't become dirty; those among the nodes are gone through, others aren't.
func TestInsertClean(t *testing.T) {
	t.Parallel()
	root, l := made("a", "b", "c")
	for flushed := range 2 {
		for clean := range 16 { // each choice of the four
			b := newBench(t)
			count := 4
			for i, n := range l {
				if clean>>i&1 == 1 {
					b.put(t, n)
					count--
				}
			}
			if flushed == 1 {
				if err := b.store.Flush(); err != nil {
					t.Fatal(err)
				}
			}
			b.insert(t, root, l)
			b.hasDirty(t, count)
		}
	}
	// The root is clean, and not among the nodes: nothing below it is reached.
	b := newBench(t)
	b.put(t, l[3])
	b.insert(t, root, l[:3])
	b.hasDirty(t, 0)
	// One that isn't clean any more.
	b.insert(t, root, l)
	b.hasDirty(t, 3)
	b.take(t, root)
	b.insert(t, root, l[3:])
	b.hasDirty(t, 4)
	b.drained(t)
}

// TestInsertDirty: a way leads through nodes that are dirty from an earlier Insert, of another root.
func TestInsertDirty(t *testing.T) {
	t.Parallel()
	slot := nodeOf(leaf("\x01", bytes.Repeat([]byte("s"), 40)))
	account := nodeOf(leaf("\x02", record(slot.Hash)))
	top := nodeOf(fork(map[int]api.Item{1: hashed(account.Hash), 16: sized(3)}))
	b := newBench(t)
	b.insert(t, account.Hash, []api.Node{account})
	b.hasDirty(t, 1)
	b.insert(t, top.Hash, []api.Node{top, slot}) // through account, which is dirty
	b.hasDirty(t, 3)
	b.drop(t, account.Hash)
	b.hasDirty(t, 3)
	b.drop(t, top.Hash)
	b.hasDirty(t, 0)
	b.insert(t, top.Hash, []api.Node{top, slot}) // account isn't there any more
	b.hasDirty(t, 1)
	b.insert(t, top.Hash, []api.Node{account})
	b.hasDirty(t, 2)
	b.insert(t, slot.Hash, []api.Node{slot})
	b.hasDirty(t, 3)
	b.drop(t, slot.Hash)
	b.hasDirty(t, 3)
	b.drained(t)
}
