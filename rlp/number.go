package rlp

import (
	"bytes"

	"moraine/api"
)

// digits tells n's bytes, the highest first, none of them 0 ahead.
func digits(n uint64) []byte {
	var b [8]byte
	start := len(b)
	for ; n > 0; n >>= 8 {
		start--
		b[start] = byte(n)
	}
	return bytes.Clone(b[start:])
}

// number tells what b's bytes, at most 8, the highest first, say.
func number(b []byte) uint64 {
	var n uint64
	for _, x := range b {
		n = n<<8 | uint64(x)
	}
	return n
}

// Uint tells the encoding of n's bytes.
func Uint(n uint64) []byte { return write(nil, api.Item{Bytes: digits(n)}) }

// Word tells the encoding of the bytes of w's number.
func Word(w api.Word) []byte {
	return write(nil, api.Item{Bytes: bytes.TrimLeft(w[:], "\x00")})
}

// undigits tells the bytes of the number of at most so many whose encoding b is.
func undigits(b []byte, most int) ([]byte, api.Errno) {
	x, e := Decode(b)
	switch {
	case e != api.OK:
		return nil, e
	case x.List || len(x.Bytes) > most:
		return nil, api.ErrRlpKind
	case len(x.Bytes) > 0 && x.Bytes[0] == 0:
		return nil, api.ErrRlpForm
	}
	return x.Bytes, api.OK
}

// Unuint tells the number whose encoding b is.
func Unuint(b []byte) (uint64, api.Errno) {
	l, e := undigits(b, 8)
	return number(l), e
}

// Unword tells the number of 256 bits whose encoding b is.
func Unword(b []byte) (api.Word, api.Errno) {
	var w api.Word
	l, e := undigits(b, len(w))
	copy(w[len(w)-len(l):], l)
	return w, e
}
