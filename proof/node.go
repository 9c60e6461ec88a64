package proof

import (
	"iter"
	"slices"

	"moraine/api"
	"moraine/keccak"
	"moraine/rlp"
	"moraine/trie"
)

const (
	forkWidth = 16            // references of a list of 17
	forkItems = forkWidth + 1 // the last one is its value
	hashSize  = 32            // bytes of a reference by hash; items of fewer stand within what refers to them
	pathMost  = 128           // nibbles of a path
)

// top tells how the root's node is referred to.
func top(root api.Hash) api.Item {
	if root == trie.Empty() {
		return api.Item{}
	}
	return byHash(root)
}

func byHash(h api.Hash) api.Item { return api.Item{Bytes: h[:]} }

// isNone tells whether a reference is the empty string.
func isNone(ref api.Item) bool { return !ref.List && len(ref.Bytes) == 0 }

// node: a leaf, a path or a list of 17.
type node struct {
	path  []byte     // none of a list of 17
	value []byte     // what stands at the end of path
	below []api.Item // what is referred to from there: once, or once for each nibble
}

// makeNode tells the node that a list is. Who calls it knows from trie.Check that it is one.
func makeNode(x api.Item) node {
	if len(x.Items) == forkItems {
		return node{value: x.Items[forkWidth].Bytes, below: x.Items[:forkWidth]}
	}
	path, isLeaf, _ := trie.Unpack(x.Items[0].Bytes)
	if isLeaf {
		return node{path: path, value: x.Items[1].Bytes}
	}
	return node{path: path, below: x.Items[1:]}
}

func (n node) isStem() bool { return len(n.below) == 1 }

func (n node) isFork() bool { return len(n.below) == forkWidth }

// references gives the references of a node that stands at a path, each with the path at which it stands itself, the lower nibble first.
func (n node) references(at []byte) iter.Seq2[[]byte, api.Item] {
	return func(yield func([]byte, api.Item) bool) {
		for i, ref := range n.below {
			path := slices.Concat(at, n.path)
			if n.isFork() {
				path = append(path, byte(i))
			}
			if !yield(path, ref) {
				return
			}
		}
	}
}

// finder tells the bytes of a node by its hash, or ends the walk.
type finder func(h api.Hash) []byte

// among seeks in a list: of two nodes with one hash it finds the first one.
func among(l []api.Node) finder {
	kept := map[api.Hash][]byte{}
	for _, n := range l {
		if _, ok := kept[n.Hash]; !ok {
			kept[n.Hash] = n.Bytes
		}
	}
	return func(h api.Hash) []byte {
		b, ok := kept[h]
		demand(ok, api.ErrProofNode)
		return b
	}
}

// summed demands that what is found has the hash that it was sought by.
func summed(find finder, e api.Errno) finder {
	return func(h api.Hash) []byte {
		b := find(h)
		demand(keccak.Sum(b) == h, e)
		return b
	}
}

// opener tells the node that a reference stands for, which isn't the empty string.
type opener func(ref api.Item) node

func opening(find finder) opener {
	return func(ref api.Item) node {
		if ref.List {
			return makeNode(ref)
		}
		b := find(api.Hash(ref.Bytes))
		demand(trie.Check(b) == api.OK, api.ErrProofForm)
		x, _ := rlp.Decode(b)
		return makeNode(x)
	}
}

// openingOnce opens a node by its hash but once: walks through whole tries may come to it on many ways.
func openingOnce(find finder) opener {
	open := opening(find)
	known := map[api.Hash]node{}
	return func(ref api.Item) node {
		if ref.List {
			return open(ref)
		}
		h := api.Hash(ref.Bytes)
		n, ok := known[h]
		if !ok {
			n = open(ref)
			known[h] = n
		}
		return n
	}
}
