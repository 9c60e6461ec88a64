package snap

import (
	"bytes"
	"iter"
	"slices"

	"moraine/api"
	"moraine/trie"
	"moraine/triedb"
)

// source: nodes of tries, and what was seen of them.
type source struct {
	nodes  *triedb.DB
	barren map[place]struct{} // where no entry is: a few nodes may make very many paths without one
}

// place: where a node stands, as far as that tells what entries it leads to.
type place struct {
	hash  api.Hash
	depth int // nibbles of its path
}

// flatWorld gives the entries of a root's flat world from a flat key on, rising, or an error, and nothing behind it.
func flatWorld(nodes *triedb.DB, root api.Hash, from []byte) iter.Seq2[api.KV, error] {
	s := source{nodes, map[place]struct{}{}}
	return func(yield func(api.KV, error) bool) {
		for account, err := range s.entries(root, from[:min(len(from), accountKey)]) {
			if err != nil {
				yield(api.KV{}, err)
				return
			}
			slots, isBegun := bytes.CutPrefix(from, account.Key)
			if !isBegun {
				slots = nil
			}
			if len(slots) == 0 && !yield(account, nil) {
				return
			}
			for slot, err := range s.slots(account, slots) {
				if !yield(slot, err) {
					return
				}
			}
		}
	}
}

// slots gives the slots of an account, under flat keys.
func (s source) slots(account api.KV, from []byte) iter.Seq2[api.KV, error] {
	return func(yield func(api.KV, error) bool) {
		root, ok := storage(account.Value)
		if !ok {
			return
		}
		for slot, err := range s.entries(root, from) {
			if err != nil {
				yield(api.KV{}, err)
				return
			}
			if !yield(api.KV{Key: slices.Concat(account.Key, slot.Key), Value: slot.Value}, nil) {
				return
			}
		}
	}
}

// entries gives the entries with keys of 32 bytes of the trie of a root, from a key on, rising, or an error, and nothing behind it.
func (s source) entries(root api.Hash, from []byte) iter.Seq2[api.KV, error] {
	return func(yield func(api.KV, error) bool) {
		if root != trie.Empty() {
			w := walk{source: s, from: trie.Nibbles(from), yield: yield}
			w.visit(nil, part{false, root[:]})
		}
	}
}
