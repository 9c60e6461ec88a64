package rlp

import (
	"bytes"

	"moraine/api"
)

// lengthMost: no greater length is looked at any further.
const lengthMost = 1 << 31

// opening: what an item's first byte says.
type opening struct {
	list  bool
	start int // where the payload begins, or a length in bytes of its own
	width int // bytes of that length; 0: there is none
	size  int // bytes of the payload, if there is none
}

func opened(x byte) opening {
	var o opening
	switch {
	case x >= listBase:
		o.list = true
		// From here on lists are spelt as strings are.
		x -= listBase - stringBase
		fallthrough
	case x >= stringBase:
		o.start = 1
		o.size = int(x - stringBase)
		o.width = max(o.size-shortMost, 0)
	default:
		o.size = 1
	}
	return o
}

// part: where an item's payload stands.
type part struct {
	list       bool
	start, end int
}

// find tells where the payload of the item at b's beginning stands; b has at least one byte.
func find(b []byte) (part, api.Errno) {
	o := opened(b[0])
	start, size := o.start+o.width, uint64(o.size)
	if start > len(b) {
		return part{}, api.ErrRlpShort
	}
	if o.width > 0 {
		size = number(b[o.start:start])
		if b[o.start] == 0 || size <= shortMost || size > lengthMost {
			return part{}, api.ErrRlpForm
		}
	}
	if size > uint64(len(b)-start) {
		return part{}, api.ErrRlpShort
	}
	p := part{o.list, start, start + int(size)}
	if !p.list && start > 0 && size == 1 && b[start] < stringBase {
		return part{}, api.ErrRlpForm
	}
	return p, api.OK
}

// First tells the item at b's beginning, and how many bytes it has.
func First(b []byte) (api.Item, int, api.Errno) {
	if len(b) > api.MaxRlp {
		return api.Item{}, 0, api.ErrRlpLong
	}
	if len(b) == 0 {
		return api.Item{}, 0, api.ErrRlpShort
	}
	enter := gate()
	var read func(b []byte, depth int) (api.Item, int, api.Errno)
	read = func(b []byte, depth int) (api.Item, int, api.Errno) {
		if e := enter(depth); e != api.OK {
			return api.Item{}, 0, e
		}
		p, e := find(b)
		if e != api.OK {
			return api.Item{}, 0, e
		}
		if !p.list {
			return api.Item{Bytes: bytes.Clone(b[p.start:p.end])}, p.end, api.OK
		}
		x := api.Item{List: true}
		for at := p.start; at < p.end; {
			y, n, e := read(b[at:p.end], depth+1)
			if e != api.OK {
				return api.Item{}, 0, e
			}
			x.Items = append(x.Items, y)
			at += n
		}
		return x, p.end, api.OK
	}
	return read(b, 1)
}

// Decode tells the item whose encoding b is.
func Decode(b []byte) (api.Item, api.Errno) {
	x, n, e := First(b)
	switch {
	case e != api.OK:
		return api.Item{}, e
	case n < len(b):
		return api.Item{}, api.ErrRlpMore
	}
	return x, api.OK
}
