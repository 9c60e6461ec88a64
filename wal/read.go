package wal

import (
	"bytes"

	"moraine/api"
	"moraine/codec"
)

// fragment: of a log that is read: data lies in the log, end is where it ends there.
type fragment struct {
	kind byte
	data []byte
	end  int
}

// find tells the fragment that comes behind b's first at bytes, if it lies within its block and within b, with a right sum.
func find(b []byte, at int) (fragment, bool) {
	zeros, left := room(at)
	start := at + zeros
	left = min(left, len(b)-start)
	if left < headSize || len(bytes.Trim(b[at:start], "\x00")) > 0 {
		return fragment{}, false
	}
	head := b[start : start+headSize]
	size := headSize + int(head[lengthAt]) + int(head[lengthAt+1])<<8
	if size > left {
		return fragment{}, false
	}
	end := start + size
	sum, e := codec.Unfixed4(head)
	if e != api.OK || codec.Sum(b[start+kindAt:end]) != sum {
		return fragment{}, false
	}
	return fragment{head[kindAt], b[start+headSize : end], end}, true
}

// Read tells the records ahead of the first one that isn't right, and how many bytes of b they take.
func Read(b []byte) ([][]byte, int) {
	var records [][]byte
	var record []byte
	gather := func(data []byte) bool {
		record = append(record, data...)
		return len(record) <= api.MaxRecord
	}
	begun, at, end := false, 0, 0
log:
	for {
		f, ok := find(b, at)
		if !ok || !gather(f.data) {
			break
		}
		at = f.end
		switch f.kind {
		case whole:
			if begun {
				break log
			}
			// It is a first one and a last one in one.
			begun = true
			fallthrough
		case last:
			if !begun {
				break log
			}
			records = append(records, record)
			begun, end, record = false, at, nil
		case first:
			if begun {
				break log
			}
			begun = true
			// More follow, as behind a middle one.
			fallthrough
		case middle:
			if !begun || at%api.LogBlock != 0 {
				break log
			}
		default:
			break log
		}
	}
	return records, end
}
