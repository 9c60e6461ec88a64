package state

import (
	"slices"

	"moraine/api"
	"moraine/rlp"
	"moraine/trie"
)

const (
	forkWidth  = 16 // references of a list of 17
	keyNibbles = 64 // of keys of slots
)

// walk gathers the entries of a storage.
type walk struct {
	state   *State
	entries []api.KV
	bad     trouble
	barren  map[place]struct{} // where nothing more is to be found: a few nodes may make very many paths without an entry
}

// place: where a node stands, as far as that tells what entries it leads to.
type place struct {
	hash  api.Hash
	depth int // nibbles of its path
}

// entries tells the entries of the trie of a root, which isn't Empty(), whose keys are those of slots, in length.
func (s *State) entries(root api.Hash) ([]api.KV, error) {
	w := walk{state: s, barren: map[place]struct{}{}}
	w.visitFar(nil, root)
	return w.entries, w.bad.err
}

// visit goes through what a reference at a path leads to.
func (w *walk) visit(path []byte, ref api.Item) {
	switch {
	case len(path) > keyNibbles:
	case ref.List:
		w.enter(path, ref)
	case len(ref.Bytes) > 0:
		w.visitFar(path, api.Hash(ref.Bytes))
	}
}

// visitFar goes through what a node leads to that is known by its hash.
func (w *walk) visitFar(path []byte, h api.Hash) {
	at := place{h, len(path)}
	if _, ok := w.barren[at]; ok {
		return
	}
	found := len(w.entries)
	n, err := w.state.node(h)
	w.bad.add(err)
	if err == nil {
		w.enter(path, n)
	}
	// Behind an error entries don't matter: it is gone on for an error that is to be told instead.
	if len(w.entries) == found || w.bad.err != nil {
		w.barren[at] = struct{}{}
	}
}

// enter goes through a node at a path.
func (w *walk) enter(path []byte, n api.Item) {
	if len(n.Items) > forkWidth {
		w.take(path, n.Items[forkWidth].Bytes)
		for i, ref := range n.Items[:forkWidth] {
			w.visit(append(path, byte(i)), ref)
		}
		return
	}
	further, isLeaf, _ := trie.Unpack(n.Items[0].Bytes)
	path = slices.Concat(path, further)
	if isLeaf {
		w.take(path, n.Items[1].Bytes)
		return
	}
	w.visit(path, n.Items[1])
}

// take gathers the value at a path, if there is one, and it is a slot's.
func (w *walk) take(path, value []byte) {
	if len(path) != keyNibbles || len(value) == 0 {
		return
	}
	key := make([]byte, keyNibbles/2)
	for i := range key {
		key[i] = path[2*i]<<4 | path[2*i+1]
	}
	w.entries = append(w.entries, api.KV{Key: key, Value: value})
}

// node tells the list that the node of a hash is.
func (s *State) node(h api.Hash) (api.Item, error) {
	b, ok, err := s.nodes.Get(h)
	switch {
	case err != nil:
		return api.Item{}, err
	case !ok:
		return api.Item{}, api.ErrTrieNode
	case trie.Check(b) != api.OK:
		return api.Item{}, api.ErrTrieForm
	}
	n, _ := rlp.Decode(b)
	return n, nil
}
