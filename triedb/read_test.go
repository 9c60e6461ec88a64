package triedb_test

import (
	"bytes"
	"fmt"
	"slices"
	"strings"
	"testing"

	"moraine/api"
	"moraine/rawdb"
	"moraine/trie"
	"moraine/triedb"
)

// TestGet: of dirty nodes, of clean ones, of both, of none.
func TestGet(t *testing.T) {
	t.Parallel()
	b := newBench(t)
	root, l := made("a", "b", "c")
	_, m := made("x", "y")
	b.put(t, l[0], m[0])
	b.insert(t, root, append(slices.Clone(l), m...))
	for flushed := range 2 {
		for i, c := range []struct {
			n    api.Node
			want bool
		}{{l[0], true}, {l[1], true}, {l[2], true}, {l[3], true}, {m[0], true}, {m[1], false}, {m[2], false}, {api.Node{}, false}, {api.Node{Hash: trie.Empty()}, false}} {
			want := ""
			if c.want {
				want = string(c.n.Bytes)
			}
			if got, ok, err := b.x.Get(c.n.Hash); string(got) != want || ok != c.want || err != nil {
				t.Errorf("P15.3: Get %d: %x, %v, %v", i, got, ok, err)
			}
		}
		if flushed == 0 {
			b.put(t, l[1]) // dirty, and clean too
			if err := b.store.Flush(); err != nil {
				t.Fatal(err)
			}
		}
	}
	// Other keys of the store that have the hash in them are no nodes.
	for _, key := range [][]byte{rawdb.CodeKey(m[1].Hash), rawdb.AccountKey(m[1].Hash), m[1].Hash[:], append(rawdb.NodeKey(m[1].Hash), 0)} {
		if err := b.store.Write([]api.Op{{Key: key, Value: m[1].Bytes}}); err != nil {
			t.Fatal(err)
		}
	}
	if got, ok, err := b.x.Get(m[1].Hash); len(got) != 0 || ok || err != nil {
		t.Errorf("P15.3: %x, %v, %v", got, ok, err)
	}
}

// TestDirtyRises: many hashes, byte by byte, whatever order they came in.
func TestDirtyRises(t *testing.T) {
	t.Parallel()
	b := newBench(t)
	if len(b.x.Dirty()) != 0 {
		t.Error("P15.3: something is dirty")
	}
	var want []api.Hash
	for i := range 600 {
		n := nodeOf(leaf("\x01", fmt.Append(nil, "value ", i)))
		want = append(want, n.Hash)
		if err := b.x.Insert(n.Hash, []api.Node{n}); err != nil {
			t.Fatal(err)
		}
	}
	slices.SortFunc(want, func(p, q api.Hash) int { return strings.Compare(string(p[:]), string(q[:])) })
	for range 3 {
		if !slices.Equal(b.x.Dirty(), want) {
			t.Fatal("P15.3: Dirty isn't what is dirty, or doesn't rise")
		}
	}
}

// tells: what a trie's Get tells of a key.
func tells(x *trie.Trie, key string) string {
	v, ok, e := x.Get([]byte(key))
	return fmt.Sprintf("%s %v %d", v, ok, e)
}

// TestTrie: over nodes that are dirty, and over clean ones, also when they become so, or go, behind the call.
func TestTrie(t *testing.T) {
	t.Parallel()
	b := newBench(t)
	root, l := made("a", "b", "c")
	key := func(i int) string { return string([]byte{byte(i * 16), 1}) }
	value := strings.Repeat("v", 40)
	x := b.x.Trie(root)
	if got := tells(x, key(0)); got != fmt.Sprintf(" false %d", api.ErrTrieNode) {
		t.Errorf("P15.3: of no node: %s", got)
	}
	if x.Root() != root || len(x.Nodes()) != 0 {
		t.Errorf("P15.3: the trie of another root: %x", x.Root())
	}
	b.put(t, l[1])
	b.insert(t, root, l[1:])
	if got := tells(x, key(0)); got != fmt.Sprintf(" false %d", api.ErrTrieNode) {
		t.Errorf("P15.3: of a missing node: %s", got)
	}
	b.insert(t, l[0].Hash, l[:1])
	for _, step := range []func(){
		func() {},
		func() { b.commit(t, root) },
		func() { b.drop(t, root); b.drop(t, l[0].Hash) },
		func() {
			if err := b.store.Flush(); err != nil {
				t.Fatal(err)
			}
		},
	} {
		step()
		for _, y := range []*trie.Trie{x, b.x.Trie(root)} {
			got := tells(y, key(0)) + ", " + tells(y, key(1)) + ", " + tells(y, key(2)) + ", " + tells(y, key(3)) + ", " + tells(y, key(2)+"x")
			if want := value + "a true 0, " + value + "b true 0, " + value + "c true 0,  false 0,  false 0"; got != want {
				t.Fatalf("P15.3: %s", got)
			}
		}
	}
	b.take(t, l[2].Hash)
	if got := tells(x, key(2)) + tells(x, key(1)); got != fmt.Sprintf(" false %d%sb true 0", api.ErrTrieNode, value) {
		t.Errorf("P15.3: of a node that is gone: %s", got)
	}
}

// TestTrieOfEmpty: no node is needed.
func TestTrieOfEmpty(t *testing.T) {
	t.Parallel()
	b := newBench(t)
	x := b.x.Trie(trie.Empty())
	if err := b.store.Close(); err != nil {
		t.Fatal(err)
	}
	if got := tells(x, "a"); got != " false 0" || x.Root() != trie.Empty() {
		t.Errorf("P15.3: %s", got)
	}
}

// TestTrieIsChanged: a trie that goes on from one that is there, round after round; what was made is read as a whole, behind each Commit.
func TestTrieIsChanged(t *testing.T) {
	t.Parallel()
	b := newBench(t)
	root, m := trie.Empty(), map[string]string{}
	for round := range 12 {
		x := b.x.Trie(root)
		for i := range 8 {
			key, value := fmt.Sprint(round*i%7, "key"), strings.Repeat(fmt.Sprint(round, i), 1+i)
			if i == 5 {
				delete(m, key)
				if e := x.Delete([]byte(key)); e != api.OK {
					t.Fatalf("P15.3: %d", e)
				}
				continue
			}
			m[key] = value
			if e := x.Put([]byte(key), []byte(value)); e != api.OK {
				t.Fatalf("P15.3: %d", e)
			}
		}
		last := root
		root = x.Root()
		b.insert(t, root, x.Nodes())
		switch round % 3 {
		case 1:
			b.commit(t, root)
		case 2:
			b.drop(t, last)
		}
		y := b.x.Trie(root)
		for key, value := range m {
			if got := tells(y, key); got != value+" true 0" {
				t.Fatalf("P15.3: round %d: %s", round, got)
			}
		}
	}
}

// TestTwoOverOne: two DBs over one store have their dirty nodes and their roots of their own, and what is clean together.
func TestTwoOverOne(t *testing.T) {
	t.Parallel()
	b := newBench(t)
	m := newModel()
	m.clean = b.m.clean
	c := &bench{d: b.d, o: b.o, store: b.store, x: triedb.New(b.store), m: m, met: b.met}
	root, l := made("a", "b")
	b.insert(t, root, l)
	if c.drop(t, root) != api.ErrTriedbRoot || c.commit(t, root) != api.ErrTriedbRoot {
		t.Error("rule 6: a root is held by another one")
	}
	c.hasDirty(t, 0)
	c.insert(t, root, l)
	b.commit(t, root)
	c.hasDirty(t, 3)
	c.insert(t, l[1].Hash, l)
	c.drop(t, root)
	c.hasDirty(t, 1)
	if got, ok, err := c.x.Get(root); !bytes.Equal(got, l[2].Bytes) || !ok || err != nil {
		t.Errorf("P15.3: %x, %v, %v", got, ok, err)
	}
}
