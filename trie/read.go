package trie

import (
	"moraine/api"
	"moraine/rlp"
)

// Check tells what is wrong with b as a node.
func Check(b []byte) api.Errno {
	_, e := read(b)
	return e
}

// Children tells the hashes that the node b refers to, in order.
func Children(b []byte) ([]api.Hash, api.Errno) {
	top, e := read(b)
	if e != api.OK {
		return nil, e
	}
	var l []api.Hash
	var gather func(n node)
	gather = func(n node) {
		if h, ok := n.(far); ok {
			l = append(l, api.Hash(h))
		}
		for _, below := range parts(n) {
			gather(below)
		}
	}
	gather(top)
	return l, api.OK
}

// read tells the node whose bytes b are.
func read(b []byte) (node, api.Errno) {
	x, e := rlp.Decode(b)
	if e != api.OK {
		return nil, e
	}
	n, ok := parse(x)
	if !ok {
		return nil, api.ErrTrieForm
	}
	return n, api.OK
}

// parse makes a node of an item; false, if it is none. The node is referred to as one that stands within another one is.
func parse(x api.Item) (node, bool) {
	switch len(x.Items) {
	case pairItems:
		return parsePair(x)
	case forkItems:
		return parseFork(x)
	}
	return nil, false
}

// parsePair: a list has no Bytes, so that it passes neither for a path nor for a value.
func parsePair(x api.Item) (node, bool) {
	first, second := x.Items[0], x.Items[1]
	path, isLeaf, e := Unpack(first.Bytes)
	switch {
	case e != api.OK:
		return nil, false
	case isLeaf:
		return &leaf{sealed{x}, path, second.Bytes}, len(second.Bytes) > 0
	}
	below, ok := parseReference(second)
	return &stem{sealed{x}, path, below}, ok && below != nil && len(path) > 0
}

func parseFork(x api.Item) (node, bool) {
	n := &fork{sealed: sealed{x}}
	filled := 0
	for i := range n.below {
		below, ok := parseReference(x.Items[i])
		if !ok {
			return nil, false
		}
		n.below[i] = below
		if below != nil {
			filled++
		}
	}
	last := x.Items[forkWidth]
	n.value = last.Bytes
	if len(n.value) > 0 {
		filled++
	}
	return n, !last.List && filled > 1
}

// parseReference makes a node of a reference: nil of the empty string.
func parseReference(x api.Item) (node, bool) {
	switch {
	case x.List:
		b, e := rlp.Encode(x)
		if e != api.OK || len(b) >= hashSize {
			return nil, false
		}
		return parse(x)
	case len(x.Bytes) == hashSize:
		return far(x.Bytes), true
	}
	return nil, len(x.Bytes) == 0
}
