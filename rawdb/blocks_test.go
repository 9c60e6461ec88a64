package rawdb_test

import (
	"fmt"
	"math/rand"
	"strings"
	"testing"

	"moraine/api"
	"moraine/rawdb"
)

// TestPutBlock: at Head, one behind the other, out of order, twice, below Head, and where the one ahead of it is missing.
func TestPutBlock(t *testing.T) {
	t.Parallel()
	p, m := opened(t, newDisk(t, 1<<20), 2), newModel(2)
	put := func(n uint64, b string, want api.Errno) {
		t.Helper()
		last := p.db.Last()
		if err := p.put(n, b); !is(err, want) {
			t.Fatalf("P13.4: PutBlock(%d): %v, not %d", n, err, want)
		}
		if want == api.OK {
			m.store[n] = b
			last++
		}
		if p.db.Last() != last {
			t.Fatalf("P13.4: PutBlock(%d): %d operations, not %d", n, p.db.Last(), last)
		}
		agree(t, p, m)
	}
	for _, n := range []uint64{1, 2, 255, 256, 1 << 63, greatest} {
		put(n, "x", api.ErrRawOrder)
	}
	put(0, "zero", api.OK)
	put(0, "again", api.ErrRawOrder)
	put(2, "x", api.ErrRawOrder)
	put(1, "", api.OK)
	put(1, "", api.ErrRawOrder)
	put(2, "two", api.OK)
	put(3, "three", api.OK)
	put(0, "x", api.ErrRawOrder)
	put(5, "x", api.ErrRawOrder)
	put(greatest, "x", api.ErrRawOrder)
	if n, err := p.move(2); n != 2 || err != nil {
		t.Fatalf("P13.4: Move: %d, %v", n, err)
	}
	m.moved(2)
	m.gone(0, 2)
	for n := range uint64(4) {
		put(n, "x", api.ErrRawOrder)
	}
	put(5, "x", api.ErrRawOrder)
	put(4, "four", api.OK)
	if n, err := p.move(greatest); n != 3 || err != nil {
		t.Fatalf("P13.4: Move: %d, %v", n, err)
	}
	m.moved(3)
	m.gone(2, 3)
	put(6, "x", api.ErrRawOrder)
	put(5, "five", api.OK)
	put(6, "six", api.OK)
}

// TestPutBehindTheLastNumber: blocks up to the greatest number, behind which none comes: 0 isn't the next one.
func TestPutBehindTheLastNumber(t *testing.T) {
	t.Parallel()
	p, m := opened(t, newDisk(t, 1<<20), 1), newModel(1)
	putRaw(t, p.db, rawdb.BlockKey(greatest-2), []byte("raw"))
	m.store[greatest-2] = "raw"
	for _, n := range []uint64{greatest - 1, greatest} {
		if err := p.put(n, fmt.Sprint(n)); err != nil {
			t.Fatalf("P13.4: PutBlock(%d): %v", n, err)
		}
		m.store[n] = fmt.Sprint(n)
	}
	agree(t, p, m)
	if n, err := p.move(greatest); n != 0 || err != nil {
		t.Errorf("P13.4: Move: %d, %v", n, err)
	}
	if err := p.put(1, "x"); !is(err, api.ErrRawOrder) {
		t.Errorf("P13.4: %v", err)
	}
	if err := p.put(0, "zero"); err != nil {
		t.Errorf("P13.4: %v", err)
	}
	m.store[0] = "zero"
	agree(t, p, m)
}

// TestLongBlocks: of as many bytes as a value may have, and one more, which is told behind a number that can't be.
func TestLongBlocks(t *testing.T) {
	t.Parallel()
	p, m := opened(t, newDisk(t, 1<<22), 3), newModel(3)
	long, longer := strings.Repeat("b", api.MaxValue), strings.Repeat("b", api.MaxValue+1)
	for n := range uint64(7) {
		if err := p.put(n, longer); !is(err, api.ErrLsmBatch) {
			t.Errorf("P13.4: %v", err)
		}
		if err := p.put(n+1, longer); !is(err, api.ErrRawOrder) {
			t.Errorf("P13.4: %v", err)
		}
		if err := p.put(n, long); err != nil {
			t.Fatalf("P13.4: %v", err)
		}
		m.store[n] = long
	}
	agree(t, p, m)
	if n, err := p.move(6); n != 6 || err != nil {
		t.Fatalf("P13.4: Move: %d, %v", n, err)
	}
	m.moved(6)
	m.gone(0, 6)
	agree(t, p, m)
}

// TestBlock: ancient ones, those in the store, those cut off at the tail, those that aren't there.
func TestBlock(t *testing.T) {
	t.Parallel()
	d := newDisk(t, 1<<20)
	p, m := filled(t, d, 2, 9, 5)
	agree(t, p, m)
	for _, tail := range []int{1, 3, 5} {
		if err := p.f.TruncateTail(tail); err != nil {
			t.Fatal(err)
		}
		m.cut(uint64(tail), 5)
		agree(t, p, m)
		// That a block was cut off doesn't make room for another one.
		for n := range uint64(5) {
			if err := p.put(n, "x"); !is(err, api.ErrRawOrder) {
				t.Errorf("P13.4: PutBlock(%d): %v", n, err)
			}
		}
	}
	if n, err := p.move(7); n != 2 || err != nil {
		t.Fatalf("P13.4: Move: %d, %v", n, err)
	}
	m.moved(2)
	m.gone(5, 2)
	agree(t, p, m)
	d.Restart(api.Crash{})
	agree(t, opened(t, d, 2), m)
}

// TestMove: below Head, at it, between, behind the last one, and again, in freezers of each number of tables.
func TestMove(t *testing.T) {
	t.Parallel()
	for tables := 1; tables <= api.MaxTables; tables++ {
		p, m := filled(t, newDisk(t, 1<<20), tables, 10, 0)
		for _, x := range []struct {
			before uint64
			want   int
		}{{0, 0}, {1, 1}, {1, 0}, {0, 0}, {4, 3}, {3, 0}, {4, 0}, {9, 5}, {10, 1}, {10, 0}, {11, 0}, {greatest, 0}} {
			last := p.db.Last()
			n, err := p.move(x.before)
			if n != x.want || err != nil || p.db.Last() != last+uint64(n) {
				t.Fatalf("P13.4: %d tables: Move(%d): %d, %v, %d operations", tables, x.before, n, err, p.db.Last()-last)
			}
			from := m.head
			m.moved(n)
			m.gone(from, n)
			agree(t, p, m)
		}
		if err := p.put(10, "more"); err != nil {
			t.Fatal(err)
		}
		m.store[10] = "more"
		agree(t, p, m)
		if n, err := p.move(1 << 63); n != 1 || err != nil {
			t.Errorf("P13.4: Move: %d, %v", n, err)
		}
	}
}

// TestMoveStopsAtAGap: blocks behind one that isn't there stay.
func TestMoveStopsAtAGap(t *testing.T) {
	t.Parallel()
	p, m := filled(t, newDisk(t, 1<<20), 2, 4, 0)
	if err := p.db.Write([]api.Op{{Delete: true, Key: rawdb.BlockKey(2)}}); err != nil {
		t.Fatal(err)
	}
	delete(m.store, 2)
	agree(t, p, m)
	if n, err := p.move(9); n != 2 || err != nil {
		t.Errorf("P13.4: Move: %d, %v", n, err)
	}
	m.moved(2)
	m.gone(0, 2)
	agree(t, p, m)
	if err := p.put(2, "anew"); err != nil {
		t.Errorf("P13.4: %v", err)
	}
	m.store[2] = "anew"
	if n, err := p.move(9); n != 2 || err != nil {
		t.Errorf("P13.4: Move: %d, %v", n, err)
	}
	m.moved(2)
	m.gone(2, 2)
	agree(t, p, m)
}

// TestBelowHead: what the store has below Head isn't looked at, and stays.
func TestBelowHead(t *testing.T) {
	t.Parallel()
	p, m := filled(t, newDisk(t, 1<<20), 2, 6, 6)
	if err := p.f.TruncateTail(2); err != nil {
		t.Fatal(err)
	}
	m.cut(2, 6)
	for n := range uint64(6) {
		putRaw(t, p.db, rawdb.BlockKey(n), []byte("other"))
		m.store[n] = "other"
	}
	agree(t, p, m)
	for n := range uint64(6) {
		if err := p.put(n, "x"); !is(err, api.ErrRawOrder) {
			t.Errorf("P13.4: PutBlock(%d): %v", n, err)
		}
	}
	// Head is there to be put, but nothing behind it, though the store has the one ahead of Head.
	if err := p.put(7, "x"); !is(err, api.ErrRawOrder) {
		t.Errorf("P13.4: %v", err)
	}
	for _, before := range []uint64{0, 3, 6, 7, greatest} {
		if n, err := p.move(before); n != 0 || err != nil {
			t.Errorf("P13.4: Move(%d): %d, %v", before, n, err)
		}
		agree(t, p, m)
	}
	if err := p.put(6, "six"); err != nil {
		t.Errorf("P13.4: %v", err)
	}
	m.store[6] = "six"
	if n, err := p.move(greatest); n != 1 || err != nil {
		t.Errorf("P13.4: Move: %d, %v", n, err)
	}
	m.moved(1)
	m.gone(6, 1)
	agree(t, p, m)
}

// TestManyMoved: as many blocks as are deleted at once, and around that, by sizes of batches as they are and small ones.
func TestManyMoved(t *testing.T) {
	t.Parallel()
	type row struct{ count, size int }
	rows := []row{{rawdb.BatchBlocks - 1, rawdb.BatchBlocks}, {rawdb.BatchBlocks, rawdb.BatchBlocks}, {rawdb.BatchBlocks + 1, rawdb.BatchBlocks}, {2*rawdb.BatchBlocks + 5, rawdb.BatchBlocks}}
	for count := range 8 {
		for size := 1; size < 6; size++ {
			rows = append(rows, row{count, size})
		}
	}
	for _, x := range rows {
		d := newDisk(t, 1<<22)
		p, m := filled(t, d, 1, x.count+2, 0)
		last := p.db.Last()
		n, err := rawdb.MoveBy(p.db, p.f, uint64(x.count), x.size)
		if n != x.count || err != nil || p.db.Last() != last+uint64(n) {
			t.Fatalf("P13.4: %d by %d: %d, %v, %d operations", x.count, x.size, n, err, p.db.Last()-last)
		}
		m.moved(n)
		m.gone(0, n)
		agree(t, p, m)
		d.Restart(api.Crash{})
		agree(t, opened(t, d, 1), m)
	}
}

// TestMoveSyncs: that the freezer is synced, also where nothing is to be moved.
func TestMoveSyncs(t *testing.T) {
	t.Parallel()
	for _, before := range []uint64{0, 1, 2, 9} {
		d := newDisk(t, 1<<20)
		p, m := filled(t, d, 2, 1, 1)
		if err := p.f.Append(1, [][]byte{[]byte("mine"), nil}); err != nil {
			t.Fatal(err)
		}
		m.store[1] = "mine"
		m.moved(1)
		m.gone(1, 1)
		if n, err := p.move(before); n != 0 || err != nil {
			t.Fatalf("P13.4: Move(%d): %d, %v", before, n, err)
		}
		d.Restart(api.Crash{})
		agree(t, opened(t, d, 2), m)
	}
}

// TestDrawn: rows of calls that are drawn, held against the model.
func TestDrawn(t *testing.T) {
	t.Parallel()
	seeded(t, 24, func(t *testing.T, r *rand.Rand) {
		tables := 1 + r.Intn(api.MaxTables)
		d := newDisk(t, 1<<24)
		p, m := opened(t, d, tables), newModel(tables)
		for range 150 {
			drawn(t, r, p, m)
			if r.Intn(20) == 0 {
				if r.Intn(2) == 0 {
					if err := p.f.Sync(); err != nil {
						t.Fatal(err)
					}
					d.Restart(crash(r, r.Intn(crashKinds)))
				}
				p = opened(t, d, tables)
			}
			agree(t, p, m)
		}
	})
}

// drawn does one thing to a pair and to the model.
func drawn(t *testing.T, r *rand.Rand, p pair, m *model) {
	t.Helper()
	var err error
	switch r.Intn(12) {
	case 0, 1, 2:
		before := m.head + uint64(r.Intn(5))
		if before > 0 && r.Intn(3) == 0 {
			before -= uint64(r.Intn(int(before)))
		}
		from, want := m.head, m.toMove(before)
		n, err := rawdb.MoveBy(p.db, p.f, before, 1+r.Intn(3))
		if n != want || err != nil {
			t.Fatalf("P13.4: Move(%d): %d, %v, not %d", before, n, err, want)
		}
		m.moved(n)
		m.gone(from, n)
	case 3:
		tail := m.tail + uint64(r.Intn(int(m.head-m.tail)+1))
		err = p.f.TruncateTail(int(tail))
		m.cut(tail, m.head)
	case 4:
		if r.Intn(3) == 0 {
			head := m.head - uint64(r.Intn(int(m.head-m.tail)+1))
			err = p.f.TruncateHead(int(head))
			m.cut(m.tail, head)
		}
	case 5:
		_, err = p.db.Settle(r.Intn(4))
	case 6:
		err = p.db.Flush()
	default:
		n := m.near()[r.Intn(len(m.near()))]
		if r.Intn(4) > 0 { // the next one
			n = m.head + uint64(m.toMove(greatest))
		}
		b, want := m.fresh(r), m.putError(n)
		if err := p.put(n, b); !is(err, want) {
			t.Fatalf("P13.4: PutBlock(%d): %v, not %d", n, err, want)
		}
		if want == api.OK {
			m.store[n] = b
		}
	}
	if err != nil {
		t.Fatal(err)
	}
}

// TestClosed: the errors of stores and freezers that are closed, where these are asked.
func TestClosed(t *testing.T) {
	t.Parallel()
	p, _ := filled(t, newDisk(t, 1<<20), 2, 6, 3)
	if err := p.f.Close(); err != nil {
		t.Fatal(err)
	}
	for n := range uint64(8) {
		b, there, err := p.block(n)
		switch {
		case n < 3 && (b != "" || there || !is(err, api.ErrFreezerClosed)), n >= 3 && (there != (n < 6) || err != nil):
			t.Errorf("P13.4: Block(%d): %q, %v, %v", n, b, there, err)
		}
	}
	for _, before := range []uint64{0, 3, 4, 9} {
		if n, err := p.move(before); n != 0 || !is(err, api.ErrFreezerClosed) {
			t.Errorf("P13.4: Move(%d) to a closed freezer: %d, %v", before, n, err)
		}
	}
	if err := p.put(6, "six"); err != nil {
		t.Errorf("P13.4: %v", err)
	}
	p, _ = filled(t, newDisk(t, 1<<20), 2, 6, 3)
	if err := p.db.Close(); err != nil {
		t.Fatal(err)
	}
	for n := range uint64(8) {
		b, there, err := p.block(n)
		switch {
		case n < 3 && (b != fmt.Sprint("v", n) || !there || err != nil), n >= 3 && (b != "" || there || !is(err, api.ErrLsmClosed)):
			t.Errorf("P13.4: Block(%d): %q, %v, %v", n, b, there, err)
		}
	}
	for n, want := range []api.Errno{api.ErrRawOrder, api.ErrRawOrder, api.ErrRawOrder, api.ErrLsmClosed, api.ErrLsmClosed} {
		if err := p.put(uint64(n), "x"); !is(err, want) {
			t.Errorf("P13.4: PutBlock(%d): %v", n, err)
		}
	}
	if n, err := p.move(5); n != 0 || !is(err, api.ErrLsmClosed) || p.f.Head() != 3 {
		t.Errorf("P13.4: Move from a closed store: %d, %v", n, err)
	}
}
