package lsm_test

import (
	"fmt"
	"math"
	"math/rand"
	"strings"
	"testing"

	"moraine/api"
	"moraine/disk"
	"moraine/lsm"
)

func TestBound(t *testing.T) {
	const most = 1 << 24
	for _, bytes := range []int{0, 1, 1000, most} {
		for _, ops := range []int{0, 1, 1000, most} {
			for _, calls := range []int{0, 1, 1000, most} {
				n := lsm.Bound(bytes, ops, calls)
				if n < 1 || n > 32*(bytes+64*ops+1024*calls)+65536 {
					t.Errorf("P11.8: Bound(%d, %d, %d): %d", bytes, ops, calls, n)
				}
			}
		}
	}
	for _, n := range []int{-1, most + 1, math.MinInt, math.MaxInt} {
		for _, c := range [][3]int{{n, 0, 0}, {0, n, 0}, {0, 0, n}, {n, n, n}, {most, most, n}} {
			if got := lsm.Bound(c[0], c[1], c[2]); got != 0 {
				t.Errorf("P11.8: Bound(%v): %d", c, got)
			}
		}
	}
}

// budget: what is left of what Bound was told.
type budget struct{ bytes, ops, calls int }

func (b *budget) has(batch []api.Op) bool {
	return b.calls >= 1 && b.ops >= len(batch) && b.bytes >= sizeOf(batch)-24*len(batch)
}

func (b *budget) spend(batch []api.Op) {
	b.calls--
	b.ops -= len(batch)
	b.bytes -= sizeOf(batch) - 24*len(batch)
}

// shape: what a row of writes is made of.
type shape struct {
	what             string
	key, value, many int // bytes of keys, of values at most; operations of a batch
	keys             int // how many of them there are
}

func (s shape) batch(r *rand.Rand) []api.Op {
	var l []api.Op
	for range s.many {
		k := fmt.Sprintf("%0*d", s.key, r.Intn(s.keys))
		k = k[len(k)-s.key:]
		if r.Intn(9) == 0 {
			l = append(l, del(k))
		} else {
			l = append(l, set(k, strings.Repeat("v", r.Intn(s.value+1))))
		}
	}
	return l
}

// TestEnough: that no call finds a disk full whose capacity is Bound's, with plans that make tables of one key, and filters and blocks as dear as they may be, and also if steps are cut off again and again.
func TestEnough(t *testing.T) {
	t.Parallel()
	for _, s := range []shape{
		{"long keys", 128, 0, 20, 4000},
		{"short keys", 2, 1, 40, 100},
		{"one key", 5, 30, 10, 1},
		{"no keys", 0, 0, 50, 1},
		{"one operation each", 40, 40, 1, 3000},
		{"long values", 10, 8192, 2, 40},
		{"whatever", 12, 200, 8, 500},
	} {
		t.Run(s.what, func(t *testing.T) {
			t.Parallel()
			for seed := range int64(4) {
				enough(t, rand.New(rand.NewSource(seed)), s, seed >= 2)
			}
		})
	}
}

func enough(t *testing.T, r *rand.Rand, s shape, faults bool) {
	o := api.Options{
		Plan:  api.Plan{Block: 256, Restart: 1, Bits: 64, Table: 16},
		Sizes: api.Sizes{Tables0: 1 + r.Intn(3), Bytes1: 1 << r.Intn(14), Factor: 2},
	}
	left := budget{bytes: 60 * s.many * (s.key + s.value), ops: 60 * s.many, calls: 200}
	all := left
	capacity := lsm.Bound(left.bytes, left.ops, left.calls)
	d := newDisk(t, capacity)
	var db *lsm.DB
	for left.calls > 1 {
		var err error
		if db == nil {
			left.calls--
			db, err = lsm.Open(d, o)
		} else if err = enoughStep(r, db, s, &left); r.Intn(4) == 0 && err == nil {
			_, err = db.Hold()
		}
		// What is used hangs on what was written, not on how often it was merged: Bound has far more room than that.
		if most := 5*(all.bytes-left.bytes) + 400*(all.ops-left.ops) + 2000; d.Used() > most {
			t.Fatalf("P11.8: %s: %d are used, not %d", s.what, d.Used(), most)
		}
		if err != nil && (!faults || !is(err, api.ErrDiskIO) && !is(err, api.ErrDiskDown)) {
			t.Fatalf("P11.8: %s: %v at %d of %d", s.what, err, d.Used(), capacity)
		}
		if err != nil || r.Intn(20) == 0 {
			db = nil
			again(r, d, faults)
		}
	}
}

// enoughStep does something that Bound counts.
func enoughStep(r *rand.Rand, db *lsm.DB, s shape, left *budget) error {
	batch := s.batch(r)
	if r.Intn(2) == 0 && left.has(batch) {
		left.spend(batch)
		return db.Write(batch)
	}
	left.calls--
	return disturb(r, db, 1)
}

// again: a disk as a fall of power, or none, leaves it, and faults that are to come.
func again(r *rand.Rand, d *disk.Disk, faults bool) {
	if r.Intn(2) == 0 {
		d.Restart(drawnCrash(r))
	}
	if faults && r.Intn(2) == 0 {
		d.Fail(1 + r.Intn(300))
	} else if faults {
		d.Halt(r.Intn(300))
	}
	if !faults {
		d.Restart(api.Crash{})
	}
}
