package proof

import (
	"bytes"
	"slices"
)

// pack tells the bytes whose halves a path of an even number of nibbles is.
func pack(path []byte) []byte {
	key := make([]byte, len(path)/2)
	for i := range key {
		key[i] = path[2*i]<<4 | path[2*i+1]
	}
	return key
}

// fill tells the key of so many bytes that begins with a path and goes on with one nibble.
func fill(path []byte, size int, nibble byte) []byte {
	return pack(slices.Concat(path, bytes.Repeat([]byte{nibble}, 2*size-len(path))))
}
