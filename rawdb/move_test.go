package rawdb_test

import (
	"fmt"
	"math/rand"
	"testing"

	"moraine/api"
	"moraine/disk"
	"moraine/rawdb"
)

// moving: a Move that is to be disturbed.
type moving struct {
	tables, count, ancient int // blocks that there are, and how many of them are ancient
	before                 uint64
	size                   int // of a batch that deletes
}

func someMovings() []moving {
	return []moving{{1, 6, 0, 4, 3}, {2, 7, 2, 7, 2}, {3, 5, 1, greatest, 1}, {2, 4, 2, 9, 9}, {2, 3, 3, 3, 1}}
}

// stopped: what a Move left that was cut off by an error of the disk: the model is that.
func stopped(t *testing.T, x moving, p pair, m *model, n int, err error, want api.Errno) {
	t.Helper()
	before, all := m.clone(), m.toMove(x.before)
	if !is(err, want) || n != p.f.Head()-int(m.head) || n > all {
		t.Fatalf("P13.4: Move: %d of %d, %v; Head was %d, is %d", n, all, err, m.head, p.f.Head())
	}
	if p.db.Dead() != nil && n != all {
		t.Fatalf("P13.4: %d of %d are in the freezer, and some were to be deleted", n, all)
	}
	if p.db.Dead() == nil && !is(p.f.Sync(), api.ErrFreezerClosed) {
		t.Fatalf("P13.4: neither the store nor the freezer is dead")
	}
	m.moved(n)
	if want == api.ErrDiskDown { // what there is can't be read
		return
	}
	if p.db.Dead() != nil {
		someGone(t, x, p, m, before.head)
	}
	agree(t, p, m)
	tellsBlocks(t, p, before)
}

// someGone: of what was moved, from the number first on, the store has the first batches no more, as many as it seems.
func someGone(t *testing.T, x moving, p pair, m *model, first uint64) {
	t.Helper()
	for first < m.head && sayStore(t, p.db) != m.sayStore() {
		count := min(x.size, int(m.head-first))
		m.gone(first, count)
		first += uint64(count)
	}
	if first == m.head {
		t.Fatalf("P13.4: all were deleted, in spite of the error")
	}
}

// tellsStill: that Block tells what it told by the model, from whichever of both it comes; the model goes on with the store and the freezer as they are now.
func tellsStill(t *testing.T, p pair, m *model) {
	t.Helper()
	tellsBlocks(t, p, m)
	head := uint64(p.f.Head())
	all := m.clone()
	m.cut(m.tail, min(head, m.head))
	for n := m.head; n < head; n++ {
		m.old[n], _ = all.block(n)
	}
	m.head = head
	for n := range all.head + uint64(len(all.store)) + 2 {
		b, there, err := p.db.Get(rawdb.BlockKey(n))
		if err != nil {
			t.Fatal(err)
		}
		delete(m.store, n)
		if there {
			m.store[n] = string(b)
		}
	}
	tellsBlocks(t, p, m)
}

// goesOn: that behind whatever was, all blocks can be moved, and more come.
func goesOn(t *testing.T, d *disk.Disk, tables int, m *model) {
	t.Helper()
	p := opened(t, d, tables)
	tellsStill(t, p, m)
	next := m.head + uint64(m.toMove(greatest))
	m.store[next] = "next"
	if err := p.put(next, "next"); err != nil {
		t.Fatalf("P13.4: it doesn't go on: %v", err)
	}
	want, from := m.toMove(next), m.head
	if n, err := p.move(next); n != want || err != nil {
		t.Fatalf("P13.4: Move(%d): %d, %v, not %d", next, n, err, want)
	}
	m.moved(want)
	m.gone(from, want)
	agree(t, p, m)
	d.Restart(api.Crash{})
	agree(t, opened(t, d, tables), m)
}

// TestMoveFails: each changing call of the disk fails in the midst of Move.
func TestMoveFails(t *testing.T) {
	t.Parallel()
	r := rand.New(rand.NewSource(1))
	for _, x := range someMovings() {
		stores, freezers := 0, 0
		for call, failed := 1, true; failed; call++ {
			for kind := range crashKinds + 1 {
				d := newDisk(t, 1<<20)
				p, m := filled(t, d, x.tables, x.count, x.ancient)
				d.Fail(call)
				n, err := rawdb.MoveBy(p.db, p.f, x.before, x.size)
				if failed = err != nil; !failed {
					break
				}
				stopped(t, x, p, m, n, err, api.ErrDiskIO)
				if p.db.Dead() == nil {
					freezers++
				} else {
					stores++
				}
				again(t, x, p, m)
				if kind < crashKinds {
					d.Restart(crash(r, kind))
				}
				goesOn(t, d, x.tables, m)
			}
		}
		if freezers == 0 || x.count > x.ancient && stores == 0 {
			t.Errorf("too few failed: %d and %d", freezers, stores)
		}
	}
}

// again: a Move behind one that failed: a freezer that is dead takes nothing, and nothing is deleted then; one that isn't has nothing more to take.
func again(t *testing.T, x moving, p pair, m *model) {
	t.Helper()
	want := api.ErrFreezerClosed
	if p.db.Dead() != nil {
		want = api.OK
	}
	if n, err := p.move(x.before); n != 0 || !is(err, want) {
		t.Fatalf("P13.4: Move again: %d, %v", n, err)
	}
	agree(t, p, m)
}

// TestMoveOfADeadStore: the freezer takes the blocks, which can't be deleted.
func TestMoveOfADeadStore(t *testing.T) {
	t.Parallel()
	d := newDisk(t, 1<<20)
	p, m := filled(t, d, 2, 5, 1)
	d.Fail(1)
	if err := p.put(5, "x"); !is(err, api.ErrDiskIO) {
		t.Fatalf("P13.4: %v", err)
	}
	agree(t, p, m)
	for n, want := range []api.Errno{api.ErrRawOrder, api.ErrRawOrder, api.ErrRawOrder, api.ErrRawOrder, api.ErrRawOrder, api.ErrLsmReadOnly, api.ErrRawOrder} {
		if err := p.put(uint64(n), "x"); !is(err, want) {
			t.Errorf("P13.4: PutBlock(%d) of a dead store: %v", n, err)
		}
	}
	if n, err := p.move(3); n != 2 || !is(err, api.ErrLsmReadOnly) {
		t.Errorf("P13.4: Move from a dead store: %d, %v", n, err)
	}
	m.moved(2)
	agree(t, p, m)
	d.Restart(api.Crash{})
	agree(t, opened(t, d, 2), m)
}

// TestMoveFull: disks with each room that is left, up to one that is enough.
func TestMoveFull(t *testing.T) {
	t.Parallel()
	const capacity = 1 << 14
	r := rand.New(rand.NewSource(2))
	for _, x := range someMovings() {
		stores, freezers := 0, 0
		for room, full := 0, true; full; room++ {
			d := newDisk(t, capacity)
			p, m := filled(t, d, x.tables, x.count, x.ancient)
			d.Create("mine")
			d.SyncDir()
			d.Append("mine", make([]byte, capacity-d.Used()-room))
			d.Sync("mine")
			n, err := rawdb.MoveBy(p.db, p.f, x.before, x.size)
			if full = err != nil; !full {
				break
			}
			stopped(t, x, p, m, n, err, api.ErrDiskFull)
			if p.db.Dead() == nil {
				freezers++
			} else {
				stores++
			}
			again(t, x, p, m)
			if r.Intn(2) == 0 {
				d.Restart(crash(r, r.Intn(crashKinds)))
			}
			tellsStill(t, opened(t, d, x.tables), m)
			d.Remove("mine")
			goesOn(t, d, x.tables, m)
		}
		if x.count > x.ancient && (freezers == 0 || stores == 0) {
			t.Errorf("too few found the disk full: %d and %d", freezers, stores)
		}
	}
}

// TestMoveFalls: power falls at each changing call in the midst of Move.
func TestMoveFalls(t *testing.T) {
	t.Parallel()
	r := rand.New(rand.NewSource(3))
	for _, x := range someMovings() {
		calls := 0
		for fell := true; fell; calls++ {
			for kind := range 2 * crashKinds {
				d := newDisk(t, 1<<20)
				p, m := filled(t, d, x.tables, x.count, x.ancient)
				d.Halt(calls)
				n, err := rawdb.MoveBy(p.db, p.f, x.before, x.size)
				if fell = err != nil; !fell {
					break
				}
				stopped(t, x, p, m, n, err, api.ErrDiskDown)
				d.Restart(crash(r, kind%crashKinds))
				goesOn(t, d, x.tables, m)
			}
		}
		if calls < x.tables*(x.count-x.ancient)/2 {
			t.Errorf("too few calls: %d", calls)
		}
	}
}

// TestFallsOverAndOver: power falls, or calls fail, again and again, in the midst of Move, PutBlock, Open, with a Restart in between or without one.
func TestFallsOverAndOver(t *testing.T) {
	t.Parallel()
	seeded(t, 60, func(t *testing.T, r *rand.Rand) {
		tables := 1 + r.Intn(3)
		d := newDisk(t, 1<<24)
		stored := uint64(0) // blocks that were acknowledged
		for range 25 {
			d.Halt(r.Intn(25))
			if r.Intn(2) == 0 {
				d.Halt(-1)
				d.Fail(1 + r.Intn(25))
			}
			p, err := open(d, tables)
			if err == nil {
				stored = disturbed(t, r, p, took(t, p, stored))
			}
			if r.Intn(3) > 0 {
				d.Restart(crash(r, r.Intn(crashKinds)))
			}
			d.Fail(0)
			d.Halt(-1)
			if _, e := d.Names(); e == api.ErrDiskDown {
				d.Restart(crash(r, r.Intn(crashKinds)))
			}
		}
		took(t, opened(t, d, tables), stored)
	})
}

// bytesOf: a block that is always the same, so that one that was in flight is known, whether it is there or not.
func bytesOf(n uint64) string { return fmt.Sprint("block ", n, " of it") }

// took: that all that was acknowledged is there; it tells how many blocks there are: one that was in flight may be, too.
func took(t *testing.T, p pair, stored uint64) uint64 {
	t.Helper()
	if _, there, _ := p.block(stored); there {
		stored++
	}
	tail := uint64(p.f.Tail())
	for n := range stored + 3 {
		want := ""
		if n >= tail && n < stored {
			want = bytesOf(n)
		}
		b, there, err := p.block(n)
		if b != want || there != (want != "") || err != nil {
			t.Fatalf("P13.5: Block(%d) of %d to %d: %q, %v, %v", n, tail, stored, b, there, err)
		}
	}
	return stored
}

// disturbed puts, moves and cuts off, up to the first error of the disk; it tells how many blocks were acknowledged.
func disturbed(t *testing.T, r *rand.Rand, p pair, stored uint64) uint64 {
	t.Helper()
	for range 20 {
		var err error
		switch r.Intn(8) {
		case 0, 1:
			_, err = rawdb.MoveBy(p.db, p.f, uint64(p.f.Head()+r.Intn(6)), 1+r.Intn(3))
		case 2:
			err = p.f.TruncateTail(p.f.Tail() + r.Intn(p.f.Head()-p.f.Tail()+1)/3)
		case 3:
			_, err = p.db.Settle(2)
		default:
			if err = p.put(stored, bytesOf(stored)); err == nil {
				stored++
			}
		}
		if err != nil {
			if !is(err, api.ErrDiskDown) && !is(err, api.ErrDiskIO) {
				t.Fatalf("P13.4: %v", err)
			}
			break
		}
	}
	return stored
}
