package triedb_test

import (
	"bytes"
	"slices"
	"testing"

	"moraine/api"
)

// scribble changes a list, and its spare room.
func scribble(b []byte) {
	b = b[:cap(b)]
	for i := range b {
		b[i] = '?'
	}
}

// roomy: nodes with spare room behind their bytes, in a list that has some, too; and all of these bytes.
func roomy(l []api.Node) ([]api.Node, [][]byte) {
	out := make([]api.Node, 0, len(l)+4)
	var rooms [][]byte
	for _, n := range l {
		whole := append(bytes.Clone(n.Bytes), "what stands behind it"...)
		rooms = append(rooms, whole)
		out = append(out, api.Node{Hash: n.Hash, Bytes: whole[:len(n.Bytes)]})
	}
	return out, rooms
}

// untouched: that a list of nodes and their room are as they were; all of it is changed then.
func untouched(t *testing.T, l []api.Node, rooms [][]byte, was []api.Node) {
	t.Helper()
	if len(l) != len(was) {
		t.Fatal("rule 3: the list was changed")
	}
	for i, n := range l {
		if n.Hash != was[i].Hash || !bytes.Equal(rooms[i], append(bytes.Clone(was[i].Bytes), "what stands behind it"...)) {
			t.Fatalf("rule 3: %x was changed: %x", was[i].Bytes, rooms[i])
		}
		scribble(rooms[i])
	}
	l = l[:cap(l)]
	if slices.ContainsFunc(l[len(was):], func(n api.Node) bool { return n.Hash != api.Hash{} || n.Bytes != nil }) {
		t.Fatal("rule 3: the list's spare room was changed")
	}
	for i := range l {
		l[i] = api.Node{Bytes: []byte("?")}
	}
}

// TestHandedIn: lists and nodes stay as they are, and may be changed behind the call, taken or refused, dirty or clean.
func TestHandedIn(t *testing.T) {
	t.Parallel()
	b := newBench(t)
	root, was := made("a", "b", "c")
	b.put(t, was[1])
	for _, hash := range []api.Hash{root, root, {}, was[0].Hash} {
		l, rooms := roomy(was)
		b.insert(t, hash, l)
		untouched(t, l, rooms, was)
		b.agrees(t)
	}
	b.hasDirty(t, 3)
	refused := append(slices.Clone(was), api.Node{Hash: api.Hash{1}, Bytes: []byte("x")})
	l, rooms := roomy(refused)
	b.insert(t, root, l)
	untouched(t, l, rooms, refused)
	b.agrees(t)
	// Nodes that share their bytes, and a piece of a list.
	joined := slices.Concat(was[0].Bytes, was[2].Bytes, was[3].Bytes)
	at := 0
	var pieces []api.Node
	for _, i := range []int{0, 2, 3} {
		pieces = append(pieces, api.Node{Hash: was[i].Hash, Bytes: joined[at : at+len(was[i].Bytes)]})
		at += len(was[i].Bytes)
	}
	c := newBench(t)
	c.insert(t, root, pieces)
	scribble(joined)
	c.agrees(t)
	c.commit(t, root)
	b.commit(t, root)
	b.drained(t)
}

// TestToldMayBeChanged: what was told, its spare room too: nodes that are dirty, nodes that are clean, hashes.
func TestToldMayBeChanged(t *testing.T) {
	t.Parallel()
	b := newBench(t)
	root, l := made("a", "b", "c")
	b.put(t, l[0])
	b.insert(t, root, l)
	for step := range 3 {
		for range 3 {
			for _, n := range l {
				first, _, _ := b.x.Get(n.Hash)
				second, _, _ := b.x.Get(n.Hash)
				scribble(first)
				if !bytes.Equal(second, n.Bytes) {
					t.Fatalf("rule 3: %x", second)
				}
				scribble(second)
			}
			told := b.x.Dirty()
			other := slices.Clone(b.x.Dirty())
			told = told[:cap(told)]
			for i := range told {
				told[i] = api.Hash{9}
			}
			if !slices.Equal(b.x.Dirty(), other) {
				t.Fatal("rule 3: Dirty")
			}
			b.agrees(t)
		}
		if step == 0 {
			b.commit(t, root)
		} else if err := b.store.Flush(); err != nil {
			t.Fatal(err)
		}
	}
	// What is committed is what was inserted, whatever was done with what was told.
	b.d.Restart(api.Crash{})
	b.open(t)
	b.agrees(t)
}

// TestTriesAreApart: tries of one root, of which one is changed: neither the other one nor the nodes are touched.
func TestTriesAreApart(t *testing.T) {
	t.Parallel()
	b := newBench(t)
	root, l := made("a", "b", "c")
	b.insert(t, root, l)
	x, y := b.x.Trie(root), b.x.Trie(root)
	if e := x.Put([]byte("key"), []byte("value")); e != api.OK {
		t.Fatal(e)
	}
	for _, n := range x.Nodes() {
		scribble(n.Bytes)
	}
	if got := tells(y, "key") + tells(b.x.Trie(root), "key"); got != " false 0 false 0" || y.Root() != root || x.Root() == root {
		t.Errorf("rule 6: %s", got)
	}
	b.agrees(t)
}
