package proof

import (
	"bytes"
	"slices"

	"moraine/api"
)

// limited tells what is wrong with a list of nodes, or with how much is asked for.
func limited(l []api.Node, limit int) api.Errno {
	switch {
	case len(l) > listMost:
		return api.ErrProofMore
	case limit < 1 || limit > entriesMost:
		return api.ErrProofKeys
	}
	return api.OK
}

// openingAll opens the nodes of a list, as long as their hashes are their own.
func openingAll(l []api.Node) opener { return openingOnce(summed(among(l), api.ErrProofForm)) }

// demandKey demands that a path of so many nibbles is a key's.
func demandKey(nibbles int) {
	demand(nibbles <= pathMost && nibbles%2 == 0, api.ErrProofForm)
}

// Entries tells the first entries of a trie from a key on.
func Entries(l []api.Node, root api.Hash, from []byte, limit int) ([]api.KV, api.Errno) {
	if e := limited(l, limit); e != api.OK {
		return nil, e
	}
	return caught(func() []api.KV { return entriesFrom(openingAll(l), root, from, limit) })
}

func entriesFrom(open opener, root api.Hash, from []byte, limit int) []api.KV {
	var found []api.KV
	take := func(path, value []byte) {
		demandKey(len(path))
		if key := pack(path); bytes.Compare(key, from) >= 0 {
			found = append(found, api.KV{Key: key, Value: bytes.Clone(value)})
		}
	}
	// Nothing is opened any more when there are as many as were asked for.
	var visit func(path []byte, ref api.Item)
	visit = func(path []byte, ref api.Item) {
		if isNone(ref) || len(found) == limit {
			return
		}
		demand(len(path) <= pathMost, api.ErrProofForm)
		if last := fill(path, keyMost, forkWidth-1); bytes.Compare(last, from) < 0 {
			return
		}
		n := open(ref)
		if len(n.value) > 0 {
			take(slices.Concat(path, n.path), n.value)
		}
		for at, below := range n.references(path) {
			visit(at, below)
		}
	}
	visit(nil, top(root))
	return found
}
