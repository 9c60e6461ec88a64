package trie

import (
	"slices"

	"moraine/api"
	"moraine/keccak"
	"moraine/rlp"
)

const (
	forkWidth = 16            // references of a list of 17
	forkItems = forkWidth + 1 // the last one is its value
	pairItems = 2             // of a leaf, and of a stem
	hashSize  = 32            // bytes of a reference by hash; items of fewer stand within their parents
)

// node: what stands at a place of a trie; nil, if nothing does. None is changed when it is made: what a trie was stays whole, until what it becomes is.
type node interface {
	reference() api.Item
}

// far: a node that isn't looked at, known by its hash alone.
type far api.Hash

func (h far) reference() api.Item { return api.Item{Bytes: h[:]} }

// sealed: how what is above a node refers to it.
type sealed struct{ ref api.Item }

func (s sealed) reference() api.Item { return s.ref }

// leaf: the end of one key.
type leaf struct {
	sealed
	path, value []byte
}

// stem: nibbles that all keys below it have.
type stem struct {
	sealed
	path  []byte
	below node
}

// fork: where keys part, and where one of them may end. Its value is empty, if none does.
type fork struct {
	sealed
	below [forkWidth]node
	value []byte
}

// parts tells what a node refers to, the lower nibble first; some of it may be nil.
func parts(n node) []node {
	switch x := n.(type) {
	case *stem:
		return []node{x.below}
	case *fork:
		return x.below[:]
	}
	return nil
}

// item tells the list that a leaf, a stem or a fork is.
func item(n node) (api.Item, api.Errno) {
	switch x := n.(type) {
	case *leaf:
		return pair(x.path, true, api.Item{Bytes: x.value})
	case *stem:
		return pair(x.path, false, x.below.reference())
	case *fork:
		l := make([]api.Item, forkItems)
		for i, below := range x.below {
			if below != nil {
				l[i] = below.reference()
			}
		}
		l[forkWidth].Bytes = x.value
		return api.Item{List: true, Items: l}, api.OK
	}
	return api.Item{}, api.ErrTrieForm
}

// pair tells the list of a path, and of what stands at its end.
func pair(path []byte, isLeaf bool, end api.Item) (api.Item, api.Errno) {
	packed, e := Pack(path, isLeaf)
	return api.Item{List: true, Items: []api.Item{{Bytes: packed}, end}}, e
}

// refer tells how a new node is referred to. Of maps each node can be written; of what else a trie is made over, it may be too long for that, or its path.
func refer(n node) (api.Item, api.Errno) {
	x, e := item(n)
	b, f := rlp.Encode(x)
	switch {
	case e != api.OK || f != api.OK:
		return api.Item{}, api.ErrTrieForm
	case len(b) < hashSize:
		return x, api.OK
	}
	return far(keccak.Sum(b)).reference(), api.OK
}

func makeLeaf(path, value []byte) (node, api.Errno) {
	n := &leaf{path: path, value: value}
	var e api.Errno
	n.ref, e = refer(n)
	return n, e
}

func makeStem(path []byte, below node) (node, api.Errno) {
	n := &stem{path: path, below: below}
	var e api.Errno
	n.ref, e = refer(n)
	return n, e
}

func makeFork(below [forkWidth]node, value []byte) (node, api.Errno) {
	n := &fork{below: below, value: value}
	var e api.Errno
	n.ref, e = refer(n)
	return n, e
}

// lead puts a path ahead of all that n has. Where n begins with a path of its own, they become one: no stem stands above a leaf or a stem.
func lead(path []byte, n node) (node, api.Errno) {
	if len(path) == 0 || n == nil {
		return n, api.OK
	}
	switch x := n.(type) {
	case *leaf:
		return makeLeaf(slices.Concat(path, x.path), x.value)
	case *stem:
		return lead(slices.Concat(path, x.path), x.below)
	}
	return makeStem(path, n)
}
