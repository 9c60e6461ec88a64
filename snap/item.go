package snap

import (
	"slices"

	"moraine/api"
	"moraine/trie"
)

// How items begin: see doc/04-rlp.md.
const (
	stringBase = 0x80 // a string of no byte
	listBase   = 0xC0 // a list of no byte
	shortMost  = 55   // bytes of a payload whose length has no bytes of its own
)

// Of an account's record.
const (
	recordParts = 4
	storagePart = 2
)

// part: an item, and the bytes in it.
type part struct {
	isList  bool
	payload []byte
}

// split tells the items that stand one behind the other in b. Who calls it knows from trie.Check that nothing but items is there.
func split(b []byte) []part {
	var l []part
	for len(b) > 0 {
		p, size := first(b)
		l = append(l, p)
		b = b[size:]
	}
	return l
}

// first tells the item at b's beginning, and how many bytes it has.
func first(b []byte) (part, int) {
	x, isList := int(b[0]), b[0] >= listBase
	if isList {
		x -= listBase - stringBase // from here on lists are spelt as strings are
	}
	if x < stringBase {
		return part{false, b[:1]}, 1
	}
	start, size := 1, x-stringBase
	if width := size - shortMost; width > 0 {
		start, size = start+width, 0
		for _, digit := range b[1:start] {
			size = size<<8 | int(digit)
		}
	}
	return part{isList, b[start : start+size]}, start + size
}

// storage tells the root of the storage of the account whose record is b; false, if it is no record.
func storage(b []byte) (api.Hash, bool) {
	// A record is an item, but no node: of what is no item trie.Check tells another error.
	if trie.Check(b) != api.ErrTrieForm {
		return api.Hash{}, false
	}
	whole, _ := first(b)
	if !whole.isList {
		return api.Hash{}, false
	}
	parts := split(whole.payload)
	if len(parts) != recordParts || slices.ContainsFunc(parts, func(p part) bool { return p.isList }) {
		return api.Hash{}, false
	}
	root := parts[storagePart].payload
	if len(root) != hashSize {
		return api.Hash{}, false
	}
	return api.Hash(root), true
}
