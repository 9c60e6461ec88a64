package lsm_test

import (
	"fmt"
	"math/rand"
	"strings"
	"testing"

	"moraine/api"
	"moraine/disk"
	"moraine/lsm"
)

func sayNames(d *disk.Disk) string {
	names, _ := d.Names()
	return strings.Join(names, " ")
}

// deadNow: what a store answers when a changing call of the disk has answered an error.
func deadNow(t *testing.T, r *rand.Rand, out outcome, want api.Errno) {
	t.Helper()
	db := out.db
	first := db.Dead()
	if !is(out.err, want) || !is(first, want) {
		t.Fatalf("P11.5: %s: %v, %v", out.did.what, out.err, first)
	}
	if got := fmt.Sprint(db.Version()); got != out.version {
		t.Fatalf("P11.5: %s: the version changed", out.did.what)
	}
	agree(t, r, db, out.m)
	for what, call := range map[string]func() error{
		"Write":               func() error { return db.Write([]api.Op{set("a", "1")}) },
		"Write of none":       func() error { return db.Write(nil) },
		"Write of what can't": func() error { return db.Write([]api.Op{set(strings.Repeat("k", api.MaxKey+1), "")}) },
		"Flush":               db.Flush,
		"Compact":             func() error { _, err := db.Compact(0); return err },
		"Compact of no level": func() error { _, err := db.Compact(9); return err },
		"Settle":              func() error { _, err := db.Settle(1); return err },
		"Settle of none":      func() error { _, err := db.Settle(0); return err },
	} {
		if err := call(); !is(err, api.ErrLsmReadOnly) {
			t.Fatalf("P11.5: %s of a dead store: %v", what, err)
		}
	}
	at, err := db.Hold()
	if at != out.m.last() || err != nil || say(db, at) != out.m.sayWorld(at) || db.Release(at) != nil {
		t.Fatalf("P11.5: reads don't go on: %d, %v", at, err)
	}
	if db.Dead().Error() != first.Error() {
		t.Fatalf("P11.5: %v, not %v", db.Dead(), first)
	}
}

// TestFails: each changing call of the disk fails, in the midst of each call of the store.
func TestFails(t *testing.T) {
	t.Parallel()
	seeded(t, 4, func(t *testing.T, r *rand.Rand) {
		met := map[string]int{}
		o, deeds := options(), someDeeds(r, 25)
		for call, failed := 1, true; failed; call++ {
			for kind := range 4 {
				d := newDisk(t, 1<<22)
				d.Fail(call)
				out := play(d, o, newModel(), deeds)
				if failed = out.err != nil; !failed {
					break
				}
				if out.db == nil {
					met["open"]++
					if !is(out.err, api.ErrDiskIO) {
						t.Fatalf("P11.1: %v", out.err)
					}
				} else {
					met[out.did.what]++
					deadNow(t, r, out, api.ErrDiskIO)
				}
				if kind > 0 {
					d.Restart([]api.Crash{{}, crashes(r)[1], drawnCrash(r)}[kind-1])
				}
				settled(t, r, opened(t, d, o), out)
				goesOn(t, r, d, o, out.m)
			}
		}
		for _, what := range []string{"open", "write", "flush", "compact", "settle"} {
			if met[what] < 1 {
				t.Errorf("too few failed: %v", met)
			}
		}
	})
}

// TestFailsOfOpen: each changing call fails of an Open that takes a store up.
func TestFailsOfOpen(t *testing.T) {
	t.Parallel()
	r := rand.New(rand.NewSource(24))
	for range 40 {
		deeds, fall := drawnDeeds(r, 30), 4+r.Intn(60)
		for call, failed := 1, true; failed; call++ {
			d := newDisk(t, 1<<22)
			d.Halt(fall)
			out := play(d, options(), newModel(), deeds)
			d.Restart(drawnCrash(r))
			d.Fail(call)
			db, err := lsm.Open(d, options())
			if failed = err != nil; failed && (db != nil || !is(err, api.ErrDiskIO)) {
				t.Fatalf("P11.1: %v", err)
			}
			if r.Intn(2) == 0 {
				d.Restart(drawnCrash(r))
			}
			d.Fail(0)
			settled(t, r, opened(t, d, options()), out)
		}
	}
}

// TestFull: disks of each capacity, up to one that is enough.
func TestFull(t *testing.T) {
	t.Parallel()
	seeded(t, 4, func(t *testing.T, r *rand.Rand) {
		met := map[string]int{}
		o, deeds := options(), someDeeds(r, 30)
		for capacity, full := 0, true; full; capacity += 1 + capacity/60 {
			d := newDisk(t, capacity)
			out := play(d, o, newModel(), deeds)
			if full = out.err != nil; !full {
				break
			}
			if out.db == nil {
				t.Fatalf("P11.7: an Open needs room: %v", out.err)
			}
			met[out.did.what]++
			deadNow(t, r, out, api.ErrDiskFull)
			if r.Intn(2) == 0 {
				d.Restart(drawnCrash(r))
			}
			settled(t, r, opened(t, d, o), out)
			// A disk that is full is so for what comes next, too, or there was something to be cleared away.
			again := play(d, o, out.m, []deed{out.did})
			if again.err != nil {
				deadNow(t, r, again, api.ErrDiskFull)
			}
			settled(t, r, opened(t, d, o), again)
		}
		for _, what := range []string{"write", "flush", "compact"} {
			if met[what] < 1 {
				t.Errorf("none was full: %v", met)
			}
		}
	})
}

// TestClearedAway: that what a step had written that found the disk full takes no room behind the next Open, as soon as something is written.
func TestClearedAway(t *testing.T) {
	o := options()
	o.Plan.Table = 16
	cleared := 0
	for capacity := 1000; ; capacity += 20 {
		d := newDisk(t, capacity)
		db, m := opened(t, d, o), newModel()
		var batch []api.Op
		for i := range 8 {
			batch = append(batch, set(fmt.Sprintf("k%d", i), strings.Repeat("v", 60)))
		}
		m.write(batch)
		if err := db.Write(batch); err != nil {
			t.Fatal(err)
		}
		if err := db.Flush(); err != nil {
			continue
		}
		before := d.Used()
		if _, err := db.Compact(0); err == nil {
			break
		}
		left := d.Used()
		if left < before+400 {
			continue
		}
		cleared++
		db = opened(t, d, o)
		if d.Used() != left {
			t.Fatalf("P11.7: Open changed what is used")
		}
		more := []api.Op{set("more", strings.Repeat("v", 200))}
		m.write(more)
		if err := db.Write(more); err != nil || d.Used() > before+300 {
			t.Fatalf("capacity %d: %d bytes were left, now %d, %v", capacity, left, d.Used(), err)
		}
		d.Restart(api.Crash{})
		db = opened(t, d, o)
		if say(db, db.Last()) != m.sayWorld(m.last()) {
			t.Fatalf("P11.7: %s", say(db, db.Last()))
		}
	}
	if cleared < 10 {
		t.Errorf("too few steps found the disk full: %d", cleared)
	}
}

// TestSettleFails: that steps of a Settle that were done aren't told, if a later one fails; and are as good as done behind an Open.
func TestSettleFails(t *testing.T) {
	t.Parallel()
	r := rand.New(rand.NewSource(31))
	for call := 1; ; call++ {
		d := newDisk(t, 1<<22)
		m := newModel()
		var deeds []deed
		for i := range 12 {
			deeds = append(deeds, deed{what: "write", batch: []api.Op{set(fmt.Sprintf("k%d", i), strings.Repeat("v", 100))}}, deed{what: "flush"})
		}
		out := play(d, options(), m, deeds)
		if out.err != nil {
			t.Fatal(out.err)
		}
		out.version, out.did = fmt.Sprint(out.db.Version()), deed{what: "settle"}
		d.Fail(call)
		var n int
		if n, out.err = out.db.Settle(1000); out.err == nil {
			if n < 5 || call < 20 {
				t.Errorf("too few steps: %d", n)
			}
			break
		}
		if n != 0 {
			t.Fatalf("P11.4: %d steps beside an error", n)
		}
		deadNow(t, r, out, api.ErrDiskIO)
		settled(t, r, opened(t, d, options()), out)
	}
}
