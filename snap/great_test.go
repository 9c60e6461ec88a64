package snap_test

import (
	"fmt"
	"math/rand"
	"strings"
	"testing"

	"moraine/api"
	"moraine/snap"
)

// bytesOf: what an operation comes to in a batch.
func bytesOf(op api.Op) int { return len(op.Key) + len(op.Value) + 24 }

// TestBatches: each is one that a store takes, and with one operation more it wouldn't be; together they are all, in order.
func TestBatches(t *testing.T) {
	t.Parallel()
	const most = api.MaxRecord - 64
	fill := func(count, key, value int) []api.Op {
		l := make([]api.Op, count)
		for i := range l {
			l[i] = api.Op{Key: make([]byte, key), Value: make([]byte, value)}
		}
		return l
	}
	full := fill(most/api.MaxValue, 65, api.MaxValue-65-24) // as many bytes as the store takes, but for these:
	left := most - len(full)*api.MaxValue
	lists := map[string][]api.Op{
		"none": nil, "one": fill(1, 33, 1), "most": fill(api.MaxBatch, 33, 1), "one more": fill(api.MaxBatch+1, 33, 1), "twice": fill(2*api.MaxBatch, 5, 0), "twice, and one": fill(2*api.MaxBatch+1, 5, 0),
		"all bytes":       append(full, fill(1, 5, left-29)...),
		"one byte more":   append(full[:len(full):len(full)], fill(1, 5, left-28)...),
		"one byte behind": append(full[:len(full):len(full)], fill(2, 5, left-29)...),
	}
	r := rand.New(rand.NewSource(1))
	for i := range 20 {
		var l []api.Op
		for range r.Intn(3000) {
			l = append(l, fill(1, 33, r.Intn(api.MaxValue+1))...)
		}
		lists[fmt.Sprint(i)] = l
	}
	want := map[string]int{"none": 0, "one": 1, "most": 1, "one more": 2, "twice": 2, "twice, and one": 3, "all bytes": 1, "one byte more": 2, "one byte behind": 2}
	for what, l := range lists {
		count, left := 0, l
		for batch := range snap.Batches(l, api.MaxBatch) {
			size := 0
			for i, op := range batch {
				if size += bytesOf(op); &op.Key[0] != &left[i].Key[0] {
					t.Fatalf("%s: operations in another order", what)
				}
			}
			if left = left[len(batch):]; len(batch) == 0 || len(batch) > api.MaxBatch || size > most {
				t.Fatalf("%s: %d operations, %d bytes", what, len(batch), size)
			}
			if len(left) > 0 && len(batch) < api.MaxBatch && size+bytesOf(left[0]) <= most {
				t.Fatalf("%s: a batch has room for more", what)
			}
			count++
		}
		if n, ok := want[what]; len(left) > 0 || ok && n != count {
			t.Errorf("%s: %d batches, %d operations left", what, count, len(left))
		}
		for range snap.Batches(l, api.MaxBatch) {
			break
		}
	}
}

// manyRecords: a tree whose flat world has more entries than a batch has operations.
func manyRecords(t *testing.T) *bench {
	t.Helper()
	b := newBench(t, greatOptions())
	root, nodes := manyPaths(4, "v")
	b.put(t, nodes...)
	first, second, rest := strings.Repeat("1", 32), strings.Repeat("2", 32), strings.Repeat("\x77", 30)
	whole, nodes := laid(map[string]string{first: record(1, root), second: record(2, root)})
	b.put(t, nodes...)
	b.reset(t, whole)
	b.keys = []string{first, second, first + "\x00\x00" + rest, first + "\xFF\xFF" + rest, second + "\x00\x00" + rest, second + "\x01\x00" + rest, strings.Repeat("k", 32)}
	return b
}

// TestManyRecords: more than a batch has room for is generated, and reset.
func TestManyRecords(t *testing.T) {
	t.Parallel()
	b := manyRecords(t)
	const count = api.MaxBatch + 100
	b.generate(t, count)
	b.agrees(t)
	b.recorded(t)
	if b.x.Done() || len(b.m.records) != count {
		t.Fatalf("P17.2: %d records", len(b.m.records))
	}
	if err := b.store.Flush(); err != nil {
		t.Fatal(err)
	}
	b.reset(t, api.Hash{7})
	b.agrees(t)
	b.recorded(t)
}

// TestManyBytes: layers whose changes have more bytes than a batch.
func TestManyBytes(t *testing.T) {
	t.Parallel()
	b := newBench(t, greatOptions())
	for n := range byte(2) {
		var l []api.KV
		for i := range 290 {
			key := strings.Repeat(fmt.Sprintf("%04d", i), 8+8*(i%2))
			if i%29 == 0 {
				b.keys = append(b.keys, key)
			}
			l = append(l, api.KV{Key: []byte(key), Value: []byte(strings.Repeat(fmt.Sprintf("%d %d.", n, i%10), 15000/4))})
		}
		b.update(t, b.x.Roots()[0], api.Hash{n + 1}, l)
		b.agrees(t)
		b.save(t)
		b.reopen(t)
		b.agrees(t)
		b.flatten(t, api.Hash{n + 1}, 0)
		b.agrees(t)
		b.reopen(t)
		b.agrees(t)
	}
	b.recorded(t)
	b.reset(t, api.Hash{7})
	b.agrees(t)
	b.recorded(t)
}
