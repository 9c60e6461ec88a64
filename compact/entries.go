package compact

import (
	"bytes"

	"moraine/api"
	"moraine/codec"
)

// Cut tells l in pieces of size bytes or little more, no user key in two of them.
func Cut(l []api.KV, size int) ([][]api.KV, api.Errno) {
	if !rises(l) {
		return nil, api.ErrCompactOrder
	}
	var pieces [][]api.KV
	var piece []api.KV
	var user []byte
	have := 0
	for _, x := range l {
		next, _, _, _ := codec.Split(x.Key)
		// No size is below 1, so that a piece without entries isn't full.
		if have >= max(size, 1) && !bytes.Equal(next, user) {
			pieces = append(pieces, piece)
			piece, have = nil, 0
		}
		piece = append(piece, copied(x))
		have += len(x.Key) + len(x.Value)
		user = next
	}
	if len(piece) > 0 {
		pieces = append(pieces, piece)
	}
	return pieces, api.OK
}

// View tells the value that a user key has in l for one who sees no sequence number above seq.
func View(l []api.KV, user []byte, seq uint64) ([]byte, bool) {
	for _, x := range l {
		u, n, kind, e := codec.Split(x.Key)
		if e != api.OK || n > seq || !bytes.Equal(u, user) {
			continue
		}
		if kind != api.Set {
			break
		}
		return bytes.Clone(x.Value), true
	}
	return nil, false
}

// rises tells whether all keys are internal keys, each behind the one ahead of it.
func rises(l []api.KV) bool {
	for i, x := range l {
		if _, _, _, e := codec.Split(x.Key); e != api.OK {
			return false
		}
		if i == 0 {
			continue
		}
		if order, _ := codec.Compare(l[i-1].Key, x.Key); order >= 0 {
			return false
		}
	}
	return true
}

func copied(x api.KV) api.KV {
	return api.KV{Key: bytes.Clone(x.Key), Value: bytes.Clone(x.Value)}
}
