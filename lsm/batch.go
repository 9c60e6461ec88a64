package lsm

import (
	"moraine/api"
	"moraine/codec"
)

// Of a batch, as P11.2 reckons it.
const (
	maxBytes = api.MaxRecord - 64
	opBytes  = 24 // for each operation, beside its key and its value
)

func isSound(batch []api.Op) bool {
	if len(batch) > api.MaxBatch {
		return false
	}
	size := 0
	for _, op := range batch {
		if !isSoundOp(op) {
			return false
		}
		size += len(op.Key) + len(op.Value) + opBytes
	}
	return size <= maxBytes
}

func isSoundOp(op api.Op) bool {
	return len(op.Key) <= api.MaxKey && len(op.Value) <= api.MaxValue && !(op.Delete && len(op.Value) > 0)
}

func kindOf(op api.Op) int {
	if op.Delete {
		return api.Delete
	}
	return api.Set
}

// encode tells a log's record of a batch: the number of its first operation, how many there are, and of each its kind, its key and, if it has one, its value.
func encode(first uint64, batch []api.Op) []byte {
	var b []byte
	number := func(n uint64) { b = append(b, codec.Put(n)...) }
	text := func(x []byte) {
		number(uint64(len(x)))
		b = append(b, x...)
	}
	number(first)
	number(uint64(len(batch)))
	for _, op := range batch {
		number(uint64(kindOf(op)))
		text(op.Key)
		if !op.Delete {
			text(op.Value)
		}
	}
	return b
}

// decode tells the batch of a log's record, and the number of its first operation; false, if no Write lays down such a record.
func decode(record []byte) (uint64, []api.Op, bool) {
	t := taker{rest: record}
	first, count := t.number(api.MaxSeq), t.number(api.MaxBatch)
	var batch []api.Op
	for range count {
		if t.hurt {
			break
		}
		batch = append(batch, t.op())
	}
	whole := !t.hurt && len(t.rest) == 0
	return first, batch, whole && first > 0 && count > 0 && isSound(batch)
}

// taker takes parts from the beginning of rest, up to the first one that isn't there.
type taker struct {
	rest []byte
	hurt bool
}

func (t *taker) number(most int) uint64 {
	n, width, e := codec.Take(t.rest)
	if e != api.OK || n > uint64(most) {
		t.hurt, t.rest = true, nil
		return 0
	}
	t.rest = t.rest[width:]
	return n
}

func (t *taker) text(most int) []byte {
	n := t.number(most)
	if n > uint64(len(t.rest)) {
		t.hurt, t.rest = true, nil
		return nil
	}
	x := t.rest[:n]
	t.rest = t.rest[n:]
	return x
}

func (t *taker) op() api.Op {
	op := api.Op{Delete: t.number(api.Set) == api.Delete, Key: t.text(api.MaxKey)}
	if !op.Delete {
		op.Value = t.text(api.MaxValue)
	}
	return op
}
