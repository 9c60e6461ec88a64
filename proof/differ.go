package proof

import (
	"bytes"

	"moraine/api"
	"moraine/rlp"
)

const pairsMost = 1 << 16 // pairs of references that are held against each other

// spot: what a trie has at a path: a reference, or else a node on whose own path the spot is, or nothing.
type spot struct {
	ref  *api.Item
	node *node // with what is left of its path
}

func (s spot) isNone() bool { return s.node == nil && (s.ref == nil || isNone(*s.ref)) }

// enter tells the node of a spot, from there on; nil, if nothing is there.
func (s spot) enter(open opener) *node {
	if s.ref == nil || isNone(*s.ref) {
		return s.node
	}
	n := open(*s.ref)
	return &n
}

// here tells the value at a node's own place.
func (n *node) here() []byte {
	if n == nil || len(n.path) > 0 {
		return nil
	}
	return n.value
}

// step tells what there is one nibble further on.
func (n *node) step(nibble int) spot {
	switch {
	case n == nil:
	case n.isFork():
		return spot{ref: &n.below[nibble]}
	case len(n.path) == 0 || int(n.path[0]) != nibble:
	case len(n.path) == 1 && n.isStem():
		return spot{ref: &n.below[0]}
	default:
		return spot{node: &node{n.path[1:], n.value, n.below}}
	}
	return spot{}
}

// Differ tells the first keys whose values differ in two tries.
func Differ(l []api.Node, a, b api.Hash, limit int) ([]api.Change, api.Errno) {
	if e := limited(l, limit); e != api.OK {
		return nil, e
	}
	return caught(func() []api.Change { return differ(openingAll(l), a, b, limit) })
}

func differ(open opener, a, b api.Hash, limit int) []api.Change {
	var found []api.Change
	take := func(path, before, after []byte) {
		if len(before)+len(after) > 0 {
			demandKey(len(path))
		}
		if !bytes.Equal(before, after) {
			found = append(found, api.Change{Key: pack(path), Before: bytes.Clone(before), After: bytes.Clone(after)})
		}
	}
	same := counting()
	var visit func(path []byte, x, y spot)
	visit = func(path []byte, x, y spot) {
		if len(found) == limit || same(x, y) || x.isNone() && y.isNone() {
			return
		}
		demand(len(path) <= pathMost, api.ErrProofForm)
		m, n := x.enter(open), y.enter(open)
		take(path, m.here(), n.here())
		for nibble := range forkWidth {
			visit(append(path, byte(nibble)), m.step(nibble), n.step(nibble))
		}
	}
	first, second := top(a), top(b)
	visit(nil, spot{ref: &first}, spot{ref: &second})
	return found
}

// counting makes what holds two references at one path against each other, as often as it may be done.
func counting() func(x, y spot) bool {
	pairs := 0
	return func(x, y spot) bool {
		if x.ref == nil || y.ref == nil {
			return false
		}
		pairs++
		demand(pairs <= pairsMost, api.ErrProofMore)
		return rlp.Equal(*x.ref, *y.ref)
	}
}
