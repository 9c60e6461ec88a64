package proof

import (
	"bytes"
	"slices"
	"sort"

	"moraine/api"
	"moraine/keccak"
	"moraine/rlp"
	"moraine/trie"
)

// entry: a key's nibbles, and its value.
type entry struct{ path, value []byte }

func entriesOf(l []api.KV) []entry {
	entries := make([]entry, len(l))
	for i, x := range l {
		entries[i] = entry{trie.Nibbles(x.Key), x.Value}
	}
	return entries
}

// alike tells whether two lists have the same entries.
func alike(a, b []entry) bool {
	return slices.EqualFunc(a, b, func(x, y entry) bool {
		return bytes.Equal(x.path, y.path) && bytes.Equal(x.value, y.value)
	})
}

// under tells those of entries that rise whose keys begin with a path.
func under(l []entry, path []byte) []entry {
	l = l[sort.Search(len(l), func(i int) bool { return bytes.Compare(l[i].path, path) >= 0 }):]
	return l[:sort.Search(len(l), func(i int) bool { return !bytes.HasPrefix(l[i].path, path) })]
}

// reference tells how the trie of entries that rise refers to their item from a nibble on: by the empty string, if there are none. Their keys have one length, so that none ends where others go on.
func reference(l []entry, from int) api.Item {
	if len(l) == 0 {
		return api.Item{}
	}
	x := item(l, from)
	b, _ := rlp.Encode(x)
	if len(b) < hashSize {
		return x
	}
	return byHash(keccak.Sum(b))
}

func item(l []entry, from int) api.Item {
	first, last := l[0].path[from:], l[len(l)-1].path[from:]
	if len(l) == 1 {
		return pair(first, true, api.Item{Bytes: l[0].value})
	}
	// What the first and the last one begin with, all between them do.
	shared := 0
	for first[shared] == last[shared] {
		shared++
	}
	if shared > 0 {
		return pair(first[:shared], false, reference(l, from+shared))
	}
	fork := api.Item{List: true, Items: make([]api.Item, forkItems)}
	for nibble := range forkWidth {
		path := append(bytes.Clone(l[0].path[:from]), byte(nibble))
		fork.Items[nibble] = reference(under(l, path), from+1)
	}
	return fork
}

// pair tells the list of a path, and of what stands at its end.
func pair(path []byte, isLeaf bool, end api.Item) api.Item {
	packed, _ := trie.Pack(path, isLeaf)
	return api.Item{List: true, Items: []api.Item{{Bytes: packed}, end}}
}
