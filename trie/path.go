package trie

import (
	"slices"

	"moraine/api"
)

const (
	nibbleMost = 15
	pathMost   = 2 * keyMost // nibbles of a path
)

// What the first nibble of a packed path says. An odd path begins beside it, an even one behind a nibble 0.
const (
	evenWay = iota
	oddWay
	evenLeaf
	oddLeaf
)

// Nibbles tells the halves of key's bytes, of each the upper one first.
func Nibbles(key []byte) []byte {
	l := make([]byte, 0, 2*len(key))
	for _, x := range key {
		l = append(l, x>>4, x&nibbleMost)
	}
	return l
}

// Pack tells a path's nibbles, and whether it is a leaf's, as bytes.
func Pack(path []byte, leaf bool) ([]byte, api.Errno) {
	noNibble := func(x byte) bool { return x > nibbleMost }
	if len(path) > pathMost || slices.ContainsFunc(path, noNibble) {
		return nil, api.ErrTrieKey
	}
	first := byte(evenWay)
	if leaf {
		first = evenLeaf
	}
	ahead := []byte{first, 0}
	if len(path)%2 == 1 {
		ahead = []byte{first + oddWay}
	}
	l := slices.Concat(ahead, path)
	b := make([]byte, len(l)/2)
	for i := range b {
		b[i] = l[2*i]<<4 | l[2*i+1]
	}
	return b, api.OK
}

// Unpack tells the path that b was packed from, and whether it is a leaf's.
func Unpack(b []byte) ([]byte, bool, api.Errno) {
	if len(b) == 0 {
		return nil, false, api.ErrTrieForm
	}
	path, leaf := Nibbles(b), false
	switch path[0] {
	case oddLeaf:
		leaf = true
		fallthrough
	case oddWay:
		path = path[1:]
	case evenLeaf:
		leaf = true
		fallthrough
	case evenWay:
		if path[1] != 0 {
			return nil, false, api.ErrTrieForm
		}
		path = path[2:]
	default:
		return nil, false, api.ErrTrieForm
	}
	if len(path) > pathMost {
		return nil, false, api.ErrTrieForm
	}
	return path, leaf, api.OK
}
