package table

import (
	"bytes"
	"iter"
	"sort"

	"moraine/api"
	"moraine/block"
	"moraine/codec"
)

// fault: what is wrong with a data block; fault{}, if nothing is.
type fault struct{ sum, form bool }

func (f fault) errno() api.Errno {
	switch {
	case f == (fault{}):
		return api.OK
	case f == (fault{sum: true}):
		return api.ErrTableSum
	}
	return api.ErrTableForm
}

// sight: a data block that was looked at; its entries, if it has no fault.
type sight struct {
	span
	entries []api.KV
	fault   fault
}

// looked goes through the data blocks from the first-th one on; a block isn't looked at before its turn.
func (t *Table) looked(first int) iter.Seq[sight] {
	return func(yield func(sight) bool) {
		for _, s := range t.spans[first:] {
			if !yield(t.look(s)) {
				return
			}
		}
	}
}

func (t *Table) look(s span) sight {
	b, sound := unsealed(t.data, piece{at: uint64(s.at), size: uint64(s.size)})
	if !sound {
		return sight{span: s, fault: fault{sum: true}}
	}
	l, e := block.Parse(b)
	if e != api.OK || len(l) == 0 || !bytes.Equal(l[len(l)-1].Key, s.last) {
		return sight{span: s, fault: fault{form: true}}
	}
	return sight{span: s, entries: l}
}

// blockFrom tells the first data block whose last key isn't ahead of key; how many there are, if there is none.
func (t *Table) blockFrom(key []byte) int {
	return sort.Search(len(t.spans), func(i int) bool {
		return !ahead(t.spans[i].last, key)
	})
}

// blockOf tells the first data block whose last user key isn't ahead of user; how many there are, if there is none.
func (t *Table) blockOf(user []byte) int {
	return sort.Search(len(t.spans), func(i int) bool {
		return bytes.Compare(t.spans[i].user, user) >= 0
	})
}

// entryFrom tells the first entry whose key isn't ahead of key; how many there are, if there is none.
func entryFrom(l []api.KV, key []byte) int {
	return sort.Search(len(l), func(i int) bool {
		return !ahead(l[i].Key, key)
	})
}

// ahead tells whether the internal key a stands ahead of the internal key b.
func ahead(a, b []byte) bool {
	order, _ := codec.Compare(a, b)
	return order < 0
}
