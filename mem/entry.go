package mem

import (
	"bytes"

	"moraine/api"
	"moraine/codec"
)

// tower: an entry at each height.
type tower [api.MaxHeight]*entry

// entry: user is the part of key that is the user key; next has at each height below its tower's the next entry whose tower is higher than that.
type entry struct {
	key, user []byte
	kind      int
	value     []byte
	next      tower
}

// kv copies, so that what is given away can't change the table.
func (e *entry) kv() api.KV {
	return api.KV{Key: bytes.Clone(e.key), Value: bytes.Clone(e.value)}
}

// keyPlace: where the entry with that internal key stands, or would stand.
type keyPlace []byte

func (p keyPlace) isBehind(e *entry) bool {
	order, _ := codec.Compare(e.key, p)
	return order < 0
}

// userPlace: where the entries begin whose user key isn't ahead of this one. It may be longer than a user key can be, so that no internal key names it.
type userPlace []byte

func (p userPlace) isBehind(e *entry) bool { return bytes.Compare(e.user, p) < 0 }

// before tells at each height the last entry that the place is behind, or the head.
func (t *Table) before(isBehind func(*entry) bool) tower {
	var last tower
	at := &t.head
	for i := api.MaxHeight - 1; i >= 0; i-- {
		for at.next[i] != nil && isBehind(at.next[i]) {
			at = at.next[i]
		}
		last[i] = at
	}
	return last
}

// first tells the first entry that the place isn't behind; nil, if there is none.
func (t *Table) first(isBehind func(*entry) bool) *entry {
	return t.before(isBehind)[0].next[0]
}

// walk: the entries from a user key on. It doesn't note how far it is, so that several may go through it at once.
type walk struct {
	table *Table
	user  userPlace
}

func (w walk) give(yield func(api.KV) bool) {
	for e := w.table.first(w.user.isBehind); e != nil; e = e.next[0] {
		if !yield(e.kv()) {
			return
		}
	}
}
