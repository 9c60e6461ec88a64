package trie

import (
	"bytes"

	"moraine/api"
)

// same is told instead of an error, where there is nothing to change: the trie is left as it is then, too.
const same api.Errno = -1

// put tells what stands at n's place, when the key that goes on with path has the value.
func (t *Trie) put(n node, path, value []byte) (node, api.Errno) {
	n, e := t.look(n)
	if e != api.OK {
		return nil, e
	}
	switch x := n.(type) {
	case *leaf:
		return putAtLeaf(x, path, value)
	case *stem:
		return t.putAtStem(x, path, value)
	case *fork:
		return t.putAtFork(x, path, value)
	}
	return makeLeaf(path, value)
}

func putAtLeaf(x *leaf, path, value []byte) (node, api.Errno) {
	if bytes.Equal(x.path, path) {
		if bytes.Equal(x.value, value) {
			return nil, same
		}
		return makeLeaf(path, value)
	}
	shared := countShared(x.path, path)
	var parted fork
	if e := parted.add(x.path[shared:], x.value); e != api.OK {
		return nil, e
	}
	return parted.grow(path, shared, value)
}

func (t *Trie) putAtStem(x *stem, path, value []byte) (node, api.Errno) {
	shared := countShared(x.path, path)
	if shared == len(x.path) {
		below, e := t.put(x.below, path[shared:], value)
		if e != api.OK {
			return nil, e
		}
		return lead(x.path, below)
	}
	var parted fork
	below, e := lead(x.path[shared+1:], x.below)
	if e != api.OK {
		return nil, e
	}
	parted.below[x.path[shared]] = below
	return parted.grow(path, shared, value)
}

func (t *Trie) putAtFork(x *fork, path, value []byte) (node, api.Errno) {
	if len(path) == 0 {
		if bytes.Equal(x.value, value) {
			return nil, same
		}
		return makeFork(x.below, value)
	}
	below := x.below
	var e api.Errno
	below[path[0]], e = t.put(below[path[0]], path[1:], value)
	if e != api.OK {
		return nil, e
	}
	return makeFork(below, x.value)
}

// countShared tells how many nibbles both paths begin with.
func countShared(a, b []byte) int {
	n := 0
	for n < len(a) && n < len(b) && a[n] == b[n] {
		n++
	}
	return n
}

// add puts a key that goes on with path to a fork that isn't made yet, and has nothing at its place.
func (f *fork) add(path, value []byte) api.Errno {
	if len(path) == 0 {
		f.value = value
		return api.OK
	}
	var e api.Errno
	f.below[path[0]], e = makeLeaf(path[1:], value)
	return e
}

// grow adds a key whose path parts, behind so many nibbles, from what is in the fork, and makes the node of both.
func (f *fork) grow(path []byte, shared int, value []byte) (node, api.Errno) {
	if e := f.add(path[shared:], value); e != api.OK {
		return nil, e
	}
	n, e := makeFork(f.below, f.value)
	if e != api.OK {
		return nil, e
	}
	return lead(path[:shared], n)
}

// remove tells what stands at n's place, when the key that goes on with path has no value.
func (t *Trie) remove(n node, path []byte) (node, api.Errno) {
	n, e := t.look(n)
	if e != api.OK {
		return nil, e
	}
	switch x := n.(type) {
	case *leaf:
		if bytes.Equal(x.path, path) {
			return nil, api.OK
		}
	case *stem:
		if rest, ok := bytes.CutPrefix(path, x.path); ok {
			below, e := t.remove(x.below, rest)
			if e != api.OK {
				return nil, e
			}
			return lead(x.path, below)
		}
	case *fork:
		return t.removeAtFork(x, path)
	}
	return nil, same
}

func (t *Trie) removeAtFork(x *fork, path []byte) (node, api.Errno) {
	if len(path) == 0 {
		if len(x.value) == 0 {
			return nil, same
		}
		return t.thin(x.below, nil)
	}
	below := x.below
	var e api.Errno
	below[path[0]], e = t.remove(below[path[0]], path[1:])
	if e != api.OK {
		return nil, e
	}
	return t.thin(below, x.value)
}

// thin makes the node of what a fork is left with, of which there is at least one: a fork has two or more.
func (t *Trie) thin(below [forkWidth]node, value []byte) (node, api.Errno) {
	count, last := 0, 0
	for i, n := range below {
		if n != nil {
			count++
			last = i
		}
	}
	switch {
	case count == 0:
		return makeLeaf(nil, value)
	case count > 1 || len(value) > 0:
		return makeFork(below, value)
	}
	only, e := t.look(below[last])
	if e != api.OK {
		return nil, e
	}
	// A fork stays what it was, and is referred to as it was.
	if _, isFork := only.(*fork); isFork {
		only = below[last]
	}
	return lead([]byte{byte(last)}, only)
}
