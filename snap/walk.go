package snap

import (
	"bytes"
	"slices"

	"moraine/api"
	"moraine/trie"
)

const (
	forkWidth  = 16           // references of a list of 17
	keyNibbles = 2 * hashSize // of keys that a flat world has
)

// walk goes through a trie.
type walk struct {
	source
	from  []byte // nibbles: keys ahead of them aren't given
	yield func(api.KV, error) bool
	given int // entries
}

// visit goes through what a reference at a path leads to, and tells whether to go on.
func (w *walk) visit(path []byte, ref part) bool {
	if len(path) > keyNibbles || len(ref.payload) == 0 || w.isAhead(path) {
		return true
	}
	if ref.isList {
		return w.enter(path, makeNode(ref.payload))
	}
	at := place{api.Hash(ref.payload), len(path)}
	if _, ok := w.barren[at]; ok {
		return true
	}
	n, err := w.open(at.hash)
	if err != nil {
		w.yield(api.KV{}, err)
		return false
	}
	given := w.given
	goOn := w.enter(path, n)
	if w.given == given && bytes.Compare(path, w.from) >= 0 {
		w.barren[at] = struct{}{}
	}
	return goOn
}

// isAhead tells whether all keys of 32 bytes that begin with a path are ahead of what is to be given.
func (w *walk) isAhead(path []byte) bool {
	size := min(len(path), len(w.from))
	return bytes.Compare(path[:size], w.from[:size]) < 0
}

// enter goes through a node at a path.
func (w *walk) enter(path []byte, n node) bool {
	path = slices.Concat(path, n.path)
	if len(n.value) > 0 && len(path) == keyNibbles && bytes.Compare(path, w.from) >= 0 {
		w.given++
		if !w.yield(api.KV{Key: pack(path), Value: n.value}, nil) {
			return false
		}
	}
	for i, ref := range n.below {
		at := path
		if len(n.below) == forkWidth {
			at = append(path, byte(i))
		}
		if !w.visit(at, ref) {
			return false
		}
	}
	return true
}

// pack tells the bytes whose halves a path is.
func pack(path []byte) []byte {
	key := make([]byte, len(path)/2)
	for i := range key {
		key[i] = path[2*i]<<4 | path[2*i+1]
	}
	return key
}

// node: a leaf, a path or a list of 17.
type node struct {
	path  []byte // none of a list of 17
	value []byte // what stands at the end of path
	below []part // what is referred to from there: once, or once for each nibble
}

// makeNode tells the node that is the list with a payload. Who calls it knows from trie.Check that it is one.
func makeNode(payload []byte) node {
	parts := split(payload)
	if len(parts) > forkWidth {
		return node{value: parts[forkWidth].payload, below: parts[:forkWidth]}
	}
	path, isLeaf, _ := trie.Unpack(parts[0].payload)
	if isLeaf {
		return node{path: path, value: parts[1].payload}
	}
	return node{path: path, below: parts[1:]}
}

// open tells the node that has a hash.
func (s source) open(h api.Hash) (node, error) {
	b, ok, err := s.nodes.Get(h)
	switch {
	case err != nil:
		return node{}, err
	case !ok:
		return node{}, api.ErrTrieNode
	case trie.Check(b) != api.OK:
		return node{}, api.ErrTrieForm
	}
	whole, _ := first(b)
	return makeNode(whole.payload), nil
}
