package lsm

import (
	"moraine/api"
	"moraine/codec"
	"moraine/wal"
)

// Where the parts of a log's fragment stand, and its kinds: see doc/05-wal.md.
const (
	lengthAt  = 4
	kindAt    = 6 // the sum is of all from here on
	headBytes = 7

	wholeKind  = 1
	firstKind  = 2
	middleKind = 3
	lastKind   = 4
)

// logged: what a log holds.
type logged struct {
	batches [][]api.Op // those that no table has
	last    uint64     // the number of the last operation that is there, in the log or in tables
	end     int        // bytes of the log that are records
	torn    bool       // there are more bytes
}

// readLog tells what the log b holds of a store whose tables have all operations up to the number flushed.
func readLog(b []byte, flushed uint64) (logged, error) {
	records, end := wal.Read(b)
	l := logged{last: flushed, end: end, torn: end < len(b)}
	if l.torn && !isTorn(b, end) {
		return logged{}, fault("a record that isn't right", api.ErrLsmBroken)
	}
	// Each batch goes on where the one ahead of it ends; the first one may be of any that tables have, as a log is emptied when these are sure.
	next := uint64(0)
	for _, record := range records {
		first, batch, ok := decode(record)
		begins := next == 0 && first <= flushed+1
		if !ok || !begins && first != next {
			return logged{}, fault("a record out of its place", api.ErrLsmBroken)
		}
		next = first + uint64(len(batch))
		if first > flushed {
			l.batches, l.last = append(l.batches, batch), next-1
		} else if next > flushed+1 {
			return logged{}, fault("a record that tables have by half", api.ErrLsmBroken)
		}
	}
	if next > 0 && next <= flushed {
		return logged{}, fault("a log that ends too early", api.ErrLsmBroken)
	}
	return l, nil
}

// isTorn tells whether what stands from the byte at on in the log b may be left of one record that was being laid down there: a Restart cuts it off anywhere, and changes no byte of it.
func isTorn(b []byte, at int) bool {
	if left := api.LogBlock - at%api.LogBlock; left < headBytes {
		for ; at < len(b) && at%api.LogBlock != 0; at++ {
			if b[at] != 0 {
				return false
			}
		}
	}
	for begun := false; at < len(b); begun = true {
		size, ok := cutFragment(b[at:], api.LogBlock-at%api.LogBlock, begun)
		if !ok {
			return false
		}
		at += size
	}
	return true
}

// cutFragment tells the bytes of the fragment at b's beginning, if it is one that more follow, or one that b ends in the midst of; room is what its block has for it.
func cutFragment(b []byte, room int, begun bool) (int, bool) {
	var head [headBytes]byte
	here := copy(head[:], b)
	size := headBytes + int(head[lengthAt]) + int(head[lengthAt+1])<<8
	if size > room {
		return 0, false
	}
	if here < headBytes {
		return size, true
	}
	more, ends := byte(firstKind), byte(wholeKind)
	if begun {
		more, ends = middleKind, lastKind
	}
	switch head[kindAt] {
	case more:
		return size, size == room && (size > len(b) || hasSum(b[:size]))
	case ends:
		return size, size > len(b)
	}
	return 0, false
}

func hasSum(fragment []byte) bool {
	sum, e := codec.Unfixed4(fragment)
	return e == api.OK && sum == codec.Sum(fragment[kindAt:])
}
