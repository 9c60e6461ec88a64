package freezer

import (
	"bytes"

	"moraine/api"
	"moraine/codec"
)

const (
	sumBytes    = 4
	lengthBytes = 3 // of the longest frame
)

// mark tells what stands ahead of an item's value in its frame, so that a frame in the place of another one is told.
func mark(table, n int) []byte {
	return append(codec.Put(uint64(table)), codec.Put(uint64(n))...)
}

// load reads the parts that begin with those items.
func (t *table) load(bases []int) error {
	if len(bases) == 0 {
		return fault("no parts", api.ErrFreezerBroken)
	}
	for i, base := range bases {
		p := &part{name: t.label.part(base), base: base}
		b, err := t.files.read(p.name)
		if err != nil {
			return err
		}
		if err := p.parse(b, t.label.index); err != nil {
			return fault(p.name, err)
		}
		if i > 0 && base != t.end() {
			return fault(p.name+" is out of its place", api.ErrFreezerBroken)
		}
		if i < len(bases)-1 && p.bytes() < len(b) {
			return fault(p.name+" ends too early", api.ErrFreezerBroken)
		}
		t.parts = append(t.parts, p)
	}
	return nil
}

// parse finds the places of the values that stand in b whole, up to one that is torn.
func (p *part) parse(b []byte, table int) error {
	for at := 0; at < len(b); {
		head := mark(table, p.end())
		body, size, e := codec.Unframe(b[at:])
		switch {
		case e == api.ErrCodecShort && isCut(b[at:], head):
			return nil
		case e != api.OK:
			return fault("unframe", e)
		case !bytes.HasPrefix(body, head) || len(body) > len(head)+api.MaxValue:
			return fault("another item", api.ErrFreezerBroken)
		}
		at += size
		value := len(body) - len(head)
		p.places = append(p.places, place{at - value, value})
	}
	return nil
}

// isCut tells whether b, which is too short for a frame, may be what is left of the frame of a value that was being written, with head ahead of the value: a Restart cuts a write off anywhere, and changes no byte of it.
func isCut(b, head []byte) bool {
	if len(b) < sumBytes {
		return true
	}
	length, width, e := codec.Take(b[sumBytes:])
	switch {
	case e == api.ErrCodecShort:
		return len(b) < sumBytes+lengthBytes
	case e != api.OK || length < uint64(len(head)) || length > uint64(len(head)+api.MaxValue):
		return false
	}
	body := b[sumBytes+width:]
	both := min(len(body), len(head))
	return bytes.Equal(body[:both], head[:both])
}
