package compact

import (
	"math/bits"

	"moraine/api"
	"moraine/manifest"
)

// The greatest sizes.
const (
	maxTables0 = 64
	maxBytes1  = 1 << 30
	maxFactor  = 16
)

// Check tells whether levels may have these sizes.
func Check(s api.Sizes) api.Errno {
	if isWithin(s.Tables0, 1, maxTables0) && isWithin(s.Bytes1, 1, maxBytes1) && isWithin(s.Factor, 2, maxFactor) {
		return api.OK
	}
	return api.ErrCompactSizes
}

func isWithin(n, least, most int) bool { return least <= n && n <= most }

// Score tells the fullest level that may be merged into the next one, if it is full.
func Score(v api.Version, s api.Sizes) (int, bool, api.Errno) {
	if e := Check(s); e != api.OK {
		return 0, false, e
	}
	if e := manifest.Check(v); e != api.OK {
		return 0, false, e
	}
	fullest, most := 0, load{has: uint64(len(v.Levels[0])), room: uint64(s.Tables0)}
	room := uint64(s.Bytes1)
	for level := 1; level <= lastPicked; level++ {
		if l := (load{has: bytesOf(v.Levels[level]), room: room}); most.isBelow(l) {
			fullest, most = level, l
		}
		room *= uint64(s.Factor)
	}
	if most.has < most.room {
		return 0, false, api.OK
	}
	return fullest, true, api.OK
}

// load: what a level has, by what it has room for.
type load struct{ has, room uint64 }

// isBelow compares by products of 128 bits: a quotient would be rounded, and 64 bits don't hold a product.
func (a load) isBelow(b load) bool {
	high, low := bits.Mul64(a.has, b.room)
	high2, low2 := bits.Mul64(b.has, a.room)
	return high < high2 || high == high2 && low < low2
}

func bytesOf(files []api.File) uint64 {
	var sum uint64
	for _, f := range files {
		sum += uint64(f.Size)
	}
	return sum
}
