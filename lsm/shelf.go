package lsm

import (
	"bytes"

	"moraine/api"
	"moraine/codec"
	"moraine/table"
)

// stride: entries of a table from one stop to the next one.
const stride = 64

// shelf: a table that is open.
type shelf struct {
	table       *table.Table
	least, most []byte   // its first and its last user key
	stops       [][]byte // some of its user keys, rising, up to the last one: not many entries stand between two of them
}

// shelve tells the shelf of the table t, whose entries are l.
func shelve(t *table.Table, l []api.KV) *shelf {
	s := &shelf{table: t, least: userOf(l[0].Key), most: userOf(l[len(l)-1].Key)}
	for i := stride; i < len(l); i += stride {
		s.stops = append(s.stops, userOf(l[i-1].Key))
	}
	s.stops = append(s.stops, s.most)
	return s
}

func userOf(key []byte) []byte {
	user, _, _, _ := codec.Split(key)
	return user
}

// isBehind tells whether user is behind most, which nothing is if most is empty.
func isBehind(user, most []byte) bool {
	return len(most) > 0 && bytes.Compare(user, most) > 0
}

// openTable tells the shelf of the table f, whose bytes are b, of a store whose tables have all operations up to the number flushed.
func openTable(f api.File, b []byte, flushed uint64) (*shelf, error) {
	t, e := table.Open(b)
	if e != api.OK {
		return nil, fault("open", e)
	}
	l, e := t.All()
	if e != api.OK {
		return nil, fault("entries", e)
	}
	first, last := l[0].Key, l[len(l)-1].Key
	if len(b) != f.Size || !bytes.Equal(first, f.Least) || !bytes.Equal(last, f.Most) {
		return nil, fault("another table", api.ErrLsmBroken)
	}
	for _, x := range l {
		if !isWritten(x, flushed) {
			return nil, fault("an entry of no batch", api.ErrLsmBroken)
		}
	}
	return shelve(t, l), nil
}

// isWritten tells whether an entry may be of one of the operations up to the number flushed.
func isWritten(x api.KV, flushed uint64) bool {
	user, seq, kind, _ := codec.Split(x.Key)
	return 1 <= seq && seq <= flushed && isSoundOp(api.Op{Delete: kind == api.Delete, Key: user, Value: x.Value})
}

// made: a table that isn't on the disk yet.
type made struct {
	file  api.File
	bytes []byte
	shelf *shelf
}

// makeTable tells the table of that number with l's entries, of which there is one.
func makeTable(number int, l []api.KV, p api.Plan) (made, error) {
	b, e := table.Build(l, p)
	if e != api.OK {
		return made{}, fault("build", e)
	}
	t, e := table.Open(b)
	if e != api.OK {
		return made{}, fault("open", e)
	}
	f := api.File{Number: number, Size: len(b), Least: l[0].Key, Most: l[len(l)-1].Key}
	return made{f, b, shelve(t, l)}, nil
}
