package freezer

import (
	"bytes"
	"slices"
	"sort"

	"moraine/api"
	"moraine/codec"
)

// partBytes: a part that has so many takes no further item. Parts are what room is given back by when items are cut off at the tail.
const partBytes = 1 << 16

// table: the values of all items under one name. It has at least one part; each part begins with the item behind the last one of the part ahead of it, and is sure, unless it is the last one.
type table struct {
	files files
	label label
	room  int // a part that has so many bytes takes no further item
	parts []*part
	kept  map[int][]byte // values that the change in hand took from the disk: they are there, if it fails
}

// part: a file with some items' values.
type part struct {
	name   string
	base   int // its first item
	places []place
}

// place: where a value stands in a file.
type place struct{ at, size int }

// end tells the item behind the part's last one.
func (p *part) end() int { return p.base + len(p.places) }

// bytes tells how many the part's values take.
func (p *part) bytes() int {
	if len(p.places) == 0 {
		return 0
	}
	last := p.places[len(p.places)-1]
	return last.at + last.size
}

func (t *table) last() *part { return t.parts[len(t.parts)-1] }

// end tells the item behind the table's last one.
func (t *table) end() int { return t.last().end() }

// value tells an item's value; the item must be there.
func (t *table) value(n int) ([]byte, error) {
	if value, ok := t.kept[n]; ok {
		return bytes.Clone(value), nil
	}
	i := sort.Search(len(t.parts), func(i int) bool { return t.parts[i].base > n })
	p := t.parts[i-1]
	at := p.places[n-p.base]
	return t.files.readAt(p.name, at.at, at.size)
}

// append puts a value behind the others.
func (t *table) append(n int, value []byte) error {
	if t.last().bytes() >= t.room {
		if err := t.addPart(n); err != nil {
			return err
		}
	}
	b, e := codec.Frame(append(mark(t.label.index, n), value...))
	if e != api.OK {
		return fault("frame", e)
	}
	p := t.last()
	if err := t.files.append(p.name, b); err != nil {
		return err
	}
	p.places = append(p.places, place{p.bytes() + len(b) - len(value), len(value)})
	return nil
}

// addPart begins another part with the item n.
func (t *table) addPart(n int) error {
	if err := t.sync(); err != nil {
		return err
	}
	name := t.label.part(n)
	if err := t.files.create(name); err != nil {
		return err
	}
	t.parts = append(t.parts, &part{name: name, base: n})
	return t.files.syncNames()
}

// sync makes the table's values sure.
func (t *table) sync() error { return t.files.sync(t.last().name) }

// cut takes the items from n on away, and whatever is torn behind them; that they are gone is sure.
func (t *table) cut(n int) error {
	if err := t.keep(n, t.end()); err != nil {
		return err
	}
	count := len(t.parts)
	for t.last().base > n {
		if err := t.files.remove(t.last().name); err != nil {
			return err
		}
		t.parts = slices.Delete(t.parts, len(t.parts)-1, len(t.parts))
	}
	if len(t.parts) < count {
		// Else the next part could be there again, and this one be cut off ahead of it.
		if err := t.files.syncNames(); err != nil {
			return err
		}
	}
	p := t.last()
	p.places = p.places[:n-p.base]
	if err := t.files.truncate(p.name, p.bytes()); err != nil {
		return err
	}
	return t.sync()
}

// drop removes the parts that have no item from n on; the last one stays, as it tells where the table ends.
func (t *table) drop(n int) error {
	for len(t.parts) > 1 && t.parts[1].base <= n {
		p := t.parts[0]
		if err := t.keep(p.base, p.end()); err != nil {
			return err
		}
		if err := t.files.remove(p.name); err != nil {
			return err
		}
		t.parts = slices.Delete(t.parts, 0, 1)
	}
	return nil
}

// keep holds the values of the items from one on up to another one, which are about to go from the disk.
func (t *table) keep(from, to int) error {
	if t.kept == nil {
		t.kept = map[int][]byte{}
	}
	for n := from; n < to; n++ {
		value, err := t.value(n)
		if err != nil {
			return err
		}
		t.kept[n] = value
	}
	return nil
}
