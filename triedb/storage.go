package triedb

import (
	"slices"

	"moraine/api"
	"moraine/trie"
)

// How items begin: see doc/04-rlp.md.
const (
	stringBase = 0x80 // a string of no byte
	listBase   = 0xC0 // a list of no byte
	shortMost  = 55   // bytes of a payload whose length has no bytes of its own
)

// Of an account's record.
const (
	recordParts = 4
	storagePart = 2
)

// part: an item, and the bytes in it.
type part struct {
	list    bool
	payload []byte
}

// split tells the items that stand one behind the other in b. Who calls it knows from trie.Check that nothing but items is there.
func split(b []byte) []part {
	var l []part
	for len(b) > 0 {
		p, size := first(b)
		l = append(l, p)
		b = b[size:]
	}
	return l
}

// first tells the item at b's beginning, and how many bytes it has.
func first(b []byte) (part, int) {
	x, isList := int(b[0]), b[0] >= listBase
	if isList {
		x -= listBase - stringBase // from here on lists are spelt as strings are
	}
	if x < stringBase {
		return part{false, b[:1]}, 1
	}
	start, size := 1, x-stringBase
	if width := size - shortMost; width > 0 {
		start, size = start+width, 0
		for _, digit := range b[1:start] {
			size = size<<8 | int(digit)
		}
	}
	return part{isList, b[start : start+size]}, start + size
}

// storages tells the roots of the storages of the accounts in a node, in order. All strings in it are looked at: a path begins with a smaller byte than a list, and a reference is shorter than a record, so that only values can be records.
func storages(b []byte) []api.Hash {
	var l []api.Hash
	var gather func(b []byte)
	gather = func(b []byte) {
		for _, p := range split(b) {
			if p.list {
				gather(p.payload)
			} else if root, ok := storage(p.payload); ok {
				l = append(l, root)
			}
		}
	}
	gather(b)
	return l
}

// storage tells the root of the storage of the account whose record is b; false, if it is no record.
func storage(b []byte) (api.Hash, bool) {
	// A record is an item, but no node: of what is no item trie.Check tells another error.
	if trie.Check(b) != api.ErrTrieForm {
		return api.Hash{}, false
	}
	whole, _ := first(b)
	if !whole.list {
		return api.Hash{}, false
	}
	parts := split(whole.payload)
	if len(parts) != recordParts || slices.ContainsFunc(parts, isList) {
		return api.Hash{}, false
	}
	root := parts[storagePart].payload
	if len(root) != len(api.Hash{}) {
		return api.Hash{}, false
	}
	return api.Hash(root), true
}

func isList(p part) bool { return p.list }
