package codec

import (
	"bytes"
	"cmp"
	"slices"

	"moraine/api"
)

// tailSize: the bytes of an internal key behind its user key.
const tailSize = 8

// The parts of an internal key, in the order in which they are compared.
const (
	userPart = iota
	seqPart
	kindPart
)

// parts: of an internal key; user lies in the key that was split.
type parts struct {
	user []byte
	seq  uint64
	kind int
}

func (p parts) valid() bool {
	return len(p.user) <= api.MaxKey && p.seq <= api.MaxSeq && (p.kind == api.Delete || p.kind == api.Set)
}

// split doesn't copy, so that comparing makes no memory.
func split(k []byte) (parts, api.Errno) {
	if len(k) < tailSize {
		return parts{}, api.ErrCodecKey
	}
	cut := len(k) - tailSize
	tail := unfixed(k[cut:])
	p := parts{user: k[:cut], seq: tail >> 8, kind: int(tail & 0xFF)}
	if !p.valid() {
		return parts{}, api.ErrCodecKey
	}
	return p, api.OK
}

// Key tells the internal key of a user key, a sequence number and a kind.
func Key(user []byte, seq uint64, kind int) ([]byte, api.Errno) {
	p := parts{user: user, seq: seq, kind: kind}
	if !p.valid() {
		return nil, api.ErrCodecKey
	}
	return slices.Concat(user, Fixed8(seq<<8|uint64(kind))), api.OK
}

// Split tells the user key, the sequence number and the kind of an internal key.
func Split(k []byte) ([]byte, uint64, int, api.Errno) {
	p, e := split(k)
	if e != api.OK {
		return nil, 0, 0, e
	}
	return bytes.Clone(p.user), p.seq, p.kind, api.OK
}

// Compare tells -1, 0, 1, as the internal key a stands ahead of b, is b, or behind it.
func Compare(a, b []byte) (int, api.Errno) {
	one, e := split(a)
	if e != api.OK {
		return 0, e
	}
	two, e := split(b)
	if e != api.OK {
		return 0, e
	}
	return compareFrom(userPart, one, two), api.OK
}

// compareFrom goes from the given part to the last one, until two are unlike.
func compareFrom(part int, a, b parts) int {
	order := 0
	switch part {
	case userPart:
		if order = bytes.Compare(a.user, b.user); order != 0 {
			break
		}
		fallthrough
	case seqPart:
		// What came later stands ahead, so that a search meets the newest first.
		if order = cmp.Compare(b.seq, a.seq); order != 0 {
			break
		}
		fallthrough
	case kindPart:
		order = cmp.Compare(b.kind, a.kind)
	}
	return order
}
