package snap

import (
	"cmp"
	"iter"
	"slices"

	"moraine/api"
)

// Of batches: see doc/11-lsm.md.
const (
	opBytes    = 24 // that an operation has beside its key and its value
	batchBytes = api.MaxRecord - 64
	pageSize   = 1024 // keys that are asked of the store at once
)

// record tells the record of a flat key.
func (t *Tree) record(key []byte) ([]byte, bool, error) {
	if t.isPast {
		return t.store.GetAt(recordKey(key), t.past)
	}
	return t.store.Get(recordKey(key))
}

// stored gives the store's keys from least to most, rising, or an error, and nothing behind it.
func (t *Tree) stored(least, most []byte) iter.Seq2[[]byte, error] {
	return func(yield func([]byte, error) bool) {
		for more := true; more; {
			page, err := t.store.Range(least, most, t.store.Last(), pageSize)
			if err != nil {
				yield(nil, err)
				return
			}
			for _, x := range page {
				if !yield(x.Key, nil) {
					return
				}
			}
			if more = len(page) == pageSize; more {
				least = append(slices.Clone(page[pageSize-1].Key), 0) // the first key behind it
			}
		}
	}
}

// deleting takes keys of the store away.
func deleting(keys [][]byte) []api.Op {
	var ops []api.Op
	for _, key := range keys {
		ops = append(ops, api.Op{Delete: true, Key: key})
	}
	return ops
}

// write writes operations, in order, in as many batches as they need. If one of these fails, the store takes nothing any more: the tree goes on reading what the store had ahead of all of them.
func (t *Tree) write(ops []api.Op) error {
	for _, op := range ops {
		if len(op.Value) > api.MaxValue { // the store tells why none of them is to be written
			return t.store.Write([]api.Op{op})
		}
	}
	at, err := t.store.Hold()
	if err != nil {
		return err
	}
	err = t.writeBatches(ops)
	if err != nil && t.store.Last() > at {
		t.isPast, t.past = true, at
		return err
	}
	return cmp.Or(err, t.store.Release(at))
}

func (t *Tree) writeBatches(ops []api.Op) error {
	for batch := range batches(ops, t.batchOps) {
		if err := t.store.Write(batch); err != nil {
			return err
		}
	}
	return nil
}

// batches gives operations in order, as many at once as the store takes, and no more than most.
func batches(ops []api.Op, most int) iter.Seq[[]api.Op] {
	return func(yield func([]api.Op) bool) {
		for len(ops) > 0 {
			count, size := 0, 0
			for _, op := range ops[:min(len(ops), most)] {
				if size += opBytes + len(op.Key) + len(op.Value); size > batchBytes {
					break
				}
				count++
			}
			if !yield(ops[:count]) {
				return
			}
			ops = ops[count:]
		}
	}
}
