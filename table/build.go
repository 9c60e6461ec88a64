package table

import (
	"bytes"

	"moraine/api"
	"moraine/block"
	"moraine/codec"
)

const (
	minBlock, maxBlock = 16, 65536
	maxRestart         = 64
	maxBits            = 64
	minTable, maxTable = 16, 1 << 22
	indexRestart       = 1
)

// Check tells whether tables can be built by the plan p.
func Check(p api.Plan) api.Errno {
	sound := within(p.Block, minBlock, maxBlock) && within(p.Restart, 1, maxRestart) &&
		within(p.Bits, 1, maxBits) && within(p.Table, minTable, maxTable)
	if !sound {
		return api.ErrTablePlan
	}
	return api.OK
}

func within(n, least, most int) bool { return least <= n && n <= most }

// Build tells a table of l's entries.
func Build(l []api.KV, p api.Plan) ([]byte, api.Errno) {
	if e := Check(p); e != api.OK {
		return nil, e
	}
	if len(l) == 0 {
		return nil, api.ErrTableNone
	}
	if _, e := block.Build(l, p.Restart); e != api.OK {
		return nil, e
	}
	var w writer
	index := w.dataBlocks(l, p)
	// None of the errors below can be: the plan is sound, and the entries rise.
	filter, _ := block.Filter(usersOf(l), p.Bits)
	inner, _ := block.Build(index, indexRestart)
	w.footer(w.sealed(filter), w.sealed(inner))
	return w.file, api.OK
}

// writer lays a table's pieces one behind the other.
type writer struct{ file []byte }

// piece: where something stands in a file, without its sum.
type piece struct{ at, size uint64 }

// sealed lays down b and its sum, and tells where b stands.
func (w *writer) sealed(b []byte) piece {
	p := piece{at: uint64(len(w.file)), size: uint64(len(b))}
	w.file = append(w.file, b...)
	w.file = append(w.file, codec.Fixed4(codec.Sum(b))...)
	return p
}

// dataBlocks lays down l's entries, and tells the entries of the index.
func (w *writer) dataBlocks(l []api.KV, p api.Plan) []api.KV {
	var index []api.KV
	for len(l) > 0 {
		n := filling(l, p.Block)
		b, _ := block.Build(l[:n], p.Restart)
		at := w.sealed(b)
		place := append(codec.Put(at.at), codec.Put(at.size)...)
		index = append(index, api.KV{Key: l[n-1].Key, Value: place})
		l = l[n:]
	}
	return index
}

// filling tells how many of l's entries, of which there is one, go into one block.
func filling(l []api.KV, most int) int {
	size := 0
	for i, x := range l {
		size += len(x.Key) + len(x.Value)
		if size >= most {
			return i + 1
		}
	}
	return len(l)
}

func (w *writer) footer(filter, index piece) {
	begin := len(w.file)
	for _, n := range []uint64{filter.at, filter.size, index.at, index.size} {
		w.file = append(w.file, codec.Fixed8(n)...)
	}
	sum := codec.Sum(w.file[begin:])
	w.file = append(w.file, codec.Fixed4(sum)...)
	w.file = append(w.file, magic...)
}

// usersOf tells the user keys of entries that rise, each once.
func usersOf(l []api.KV) [][]byte {
	var users [][]byte
	for _, x := range l {
		user, _, _, _ := codec.Split(x.Key)
		if n := len(users); n == 0 || !bytes.Equal(users[n-1], user) {
			users = append(users, user)
		}
	}
	return users
}
