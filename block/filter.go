package block

import (
	"math/bits"

	"moraine/api"
	"moraine/codec"
)

const (
	maxBits  = 64 // bits for each key, at most
	minBytes = 8  // bytes of the fewest bits that a filter has
	maxTurns = 30 // bits that are set of one key, at most
)

// marks: bits in bytes, in each the lowest first.
type marks []byte

func (m marks) set(bit uint64) bool {
	m[bit/8] |= 1 << (bit % 8)
	return true
}

func (m marks) has(bit uint64) bool {
	return m[bit/8]>>(bit%8)&1 == 1
}

// each hands over the bits that stand for key, as long as visit answers true, and tells whether it did of all.
func (m marks) each(key []byte, turns int, visit func(bit uint64) bool) bool {
	h := codec.Sum(key)
	d := bits.RotateLeft32(h, -17)
	for range turns {
		if !visit(uint64(h) % (8 * uint64(len(m)))) {
			return false
		}
		h += d
	}
	return true
}

// Filter tells a filter of the keys, with that many bits for each.
func Filter(keys [][]byte, bits int) ([]byte, api.Errno) {
	if bits < 1 || bits > maxBits {
		return nil, api.ErrBlockPlan
	}
	turns := min(max(bits*69/100, 1), maxTurns)
	m := make(marks, max((bits*len(keys)+7)/8, minBytes))
	for _, key := range keys {
		m.each(key, turns, m.set)
	}
	return append(m, byte(turns)), api.OK
}

// May tells whether key may be one of the filter's keys.
func May(filter, key []byte) bool {
	last := len(filter) - 1
	if last < minBytes {
		return true
	}
	turns := int(filter[last])
	if turns < 1 || turns > maxTurns {
		return true
	}
	m := marks(filter[:last])
	return m.each(key, turns, m.has)
}
