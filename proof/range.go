package proof

import (
	"bytes"

	"moraine/api"
	"moraine/rlp"
)

const rangeNibbles = 2 * hashSize // of a key of a range

// span: all keys of 32 bytes from least to most.
type span struct{ least, most api.Hash }

// Where a path lies.
const (
	inside = iota
	outside
	across
)

// lies tells where a path lies. With one that is too long no key begins: as none of them is left out it lies inside, though outside is as true.
func (s span) lies(path []byte) int {
	if len(path) > rangeNibbles {
		return inside
	}
	first, last := fill(path, hashSize, 0), fill(path, hashSize, forkWidth-1)
	switch {
	case bytes.Compare(last, s.least[:]) < 0 || bytes.Compare(first, s.most[:]) > 0:
		return outside
	case bytes.Compare(first, s.least[:]) < 0 || bytes.Compare(last, s.most[:]) > 0:
		return across
	}
	return inside
}

// isBackward tells whether there is no such range.
func (s span) isBackward() bool { return bytes.Compare(s.most[:], s.least[:]) < 0 }

// holds tells whether entries are some that a trie may have in the range.
func (s span) holds(entries []api.KV) bool {
	for i, x := range entries {
		switch {
		case len(x.Key) != hashSize || len(x.Value) == 0 || len(x.Value) > valueMost:
			return false
		case bytes.Compare(x.Key, s.least[:]) < 0 || bytes.Compare(x.Key, s.most[:]) > 0:
			return false
		case i > 0 && bytes.Compare(entries[i-1].Key, x.Key) >= 0:
			return false
		}
	}
	return true
}

// ProveRange tells the nodes by which, with the entries of a range, a root can be held against these.
func ProveRange(l []api.Node, root, least, most api.Hash) ([]api.Node, api.Errno) {
	s := span{least, most}
	switch {
	case len(l) > listMost:
		return nil, api.ErrProofMore
	case s.isBackward():
		return nil, api.ErrProofKeys
	}
	return caught(func() []api.Node { return s.prove(among(l), root) })
}

func (s span) prove(find finder, root api.Hash) []api.Node {
	var proof []api.Node
	told := map[api.Hash]struct{}{}
	open := opening(func(h api.Hash) []byte {
		b := find(h)
		if _, ok := told[h]; !ok {
			told[h] = struct{}{}
			proof = append(proof, api.Node{Hash: h, Bytes: bytes.Clone(b)})
		}
		return b
	})
	// A node that was told is gone through again, where it stands at another path: other parts of it lie across there.
	var visit func(path []byte, ref api.Item)
	visit = func(path []byte, ref api.Item) {
		if isNone(ref) || s.lies(path) != across {
			return
		}
		for at, below := range open(ref).references(path) {
			visit(at, below)
		}
	}
	visit(nil, top(root))
	return proof
}

// VerifyRange tells whether entries are all that the trie of a root has in a range.
func VerifyRange(root, least, most api.Hash, entries []api.KV, proof []api.Node) api.Errno {
	s := span{least, most}
	switch {
	case len(proof) > listMost || len(entries) > entriesMost:
		return api.ErrProofMore
	case s.isBackward() || !s.holds(entries):
		return api.ErrProofKeys
	}
	needed, e := caught(func() int { return s.verify(root, entriesOf(entries), among(proof)) })
	if e == api.OK && needed < len(proof) {
		return api.ErrProofMore
	}
	return e
}

// verify holds entries against a root, and tells how many nodes were needed for that.
func (s span) verify(root api.Hash, l []entry, find finder) int {
	needed := map[api.Hash]struct{}{}
	open := opening(summed(func(h api.Hash) []byte {
		needed[h] = struct{}{}
		return find(h)
	}, api.ErrProofRoot))
	var visit func(path []byte, ref api.Item, l []entry)
	visit = func(path []byte, ref api.Item, l []entry) {
		switch lies := s.lies(path); {
		case lies == outside:
		case lies == inside:
			// Of the root this asks for its hash: an item with whole keys of 32 bytes never stands within another one.
			demand(rlp.Equal(ref, reference(l, len(path))), api.ErrProofRoot)
		case isNone(ref):
			demand(len(l) == 0, api.ErrProofRoot)
		default:
			n := open(ref)
			s.compare(n, path, l)
			for at, below := range n.references(path) {
				visit(at, below, under(l, at))
			}
		}
	}
	visit(nil, top(root), l)
	return len(needed)
}

// compare holds a node across the range against the entries whose keys begin with its path: its own value, and what stands beside its own path.
func (s span) compare(n node, path []byte, l []entry) {
	end := append(bytes.Clone(path), n.path...)
	demand(len(end) <= rangeNibbles, api.ErrProofForm)
	if len(n.value) == 0 {
		demand(len(under(l, end)) == len(l), api.ErrProofRoot)
		return
	}
	demand(len(end) == rangeNibbles, api.ErrProofForm)
	var own []entry
	if s.lies(end) == inside {
		own = []entry{{end, n.value}}
	}
	demand(alike(l, own), api.ErrProofRoot)
}
