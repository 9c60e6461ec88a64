package proof

import (
	"moraine/api"
)

// place: a node, and how many nibbles stand ahead of it.
type place struct {
	hash  api.Hash
	depth int
}

// Walk tells the hashes of all nodes of a trie, each ahead of what it refers to.
func Walk(l []api.Node, root api.Hash) ([]api.Hash, api.Errno) {
	if len(l) > listMost {
		return nil, api.ErrProofMore
	}
	return caught(func() []api.Hash { return walk(openingAll(l), root) })
}

func walk(open opener, root api.Hash) []api.Hash {
	var hashes []api.Hash
	told := map[api.Hash]struct{}{}
	tell := func(h api.Hash) {
		if _, ok := told[h]; !ok {
			told[h] = struct{}{}
			hashes = append(hashes, h)
		}
	}
	// Whether values stand where keys end hangs on how deep a node stands: it is gone through once at each depth.
	met := map[place]struct{}{}
	var visit func(depth int, ref api.Item)
	visit = func(depth int, ref api.Item) {
		if isNone(ref) {
			return
		}
		demand(depth <= pathMost, api.ErrProofForm)
		if !ref.List {
			here := place{api.Hash(ref.Bytes), depth}
			if _, ok := met[here]; ok {
				return
			}
			met[here] = struct{}{}
			tell(here.hash)
		}
		n := open(ref)
		if len(n.value) > 0 {
			demandKey(depth + len(n.path))
		}
		for _, below := range n.below {
			visit(depth+n.stride(), below)
		}
	}
	visit(0, top(root))
	return hashes
}

// stride tells how many nibbles stand between a node and what it refers to.
func (n node) stride() int {
	if n.isFork() {
		return 1
	}
	return len(n.path)
}
