package lsm_test

import (
	"math/rand"
	"testing"

	"moraine/api"
	"moraine/disk"
	"moraine/lsm"
)

// TestFalls: power falls at each changing call of the disk.
func TestFalls(t *testing.T) {
	t.Parallel()
	seeded(t, 4, func(t *testing.T, r *rand.Rand) {
		o, deeds := options(), someDeeds(r, 20)
		calls := 0
		for fell := true; fell; calls++ {
			for kind := range 7 {
				d := newDisk(t, 1<<22)
				d.Halt(calls)
				out := play(d, o, newModel(), deeds)
				if fell = out.err != nil; !fell {
					break
				}
				fallen(t, r, out)
				d.Restart(crashes(r)[kind])
				settled(t, r, opened(t, d, o), out)
				goesOn(t, r, d, o, out.m)
			}
		}
		if calls < 50 {
			t.Errorf("too few calls: %d", calls)
		}
	})
}

// fallen: what a store tells while the power is down.
func fallen(t *testing.T, r *rand.Rand, out outcome) {
	t.Helper()
	if !is(out.err, api.ErrDiskDown) {
		t.Fatalf("P11.5: %v", out.err)
	}
	if out.db == nil {
		return
	}
	deadNow(t, r, out, api.ErrDiskDown)
}

// TestFallsOverAndOver: power falls again and again, also while a store is opened.
func TestFallsOverAndOver(t *testing.T) {
	t.Parallel()
	seeded(t, 60, func(t *testing.T, r *rand.Rand) {
		d, m := newDisk(t, 1<<22), newModel()
		for range 30 {
			d.Halt(r.Intn(30))
			if r.Intn(3) == 0 {
				d.Halt(r.Intn(4))
			}
			o := drawnOptions(r)
			out := play(d, o, m, drawnDeeds(r, 20))
			if out.err != nil {
				fallen(t, r, out)
			}
			d.Restart(drawnCrash(r))
			for range r.Intn(3) { // falls of an Open alone
				d.Halt(r.Intn(4))
				if db, err := lsm.Open(d, drawnOptions(r)); err == nil {
					settled(t, r, db, out)
					out.inFlight = nil
				} else if !is(err, api.ErrDiskDown) {
					t.Fatalf("P11.7: %v", err)
				}
				d.Restart(drawnCrash(r))
			}
			settled(t, r, opened(t, d, o), out)
		}
	})
}

// TestFallsWhileOpened: power falls at each changing call of an Open of what a fall had left, with what is torn cut off or not.
func TestFallsWhileOpened(t *testing.T) {
	t.Parallel()
	seeded(t, 3, func(t *testing.T, r *rand.Rand) {
		o, deeds := options(), someDeeds(r, 12)
		opens := 0
		for calls, fell := 0, true; fell; calls++ {
			for _, bytes := range []int{0, 1, 2, 8, 13, 40, 90} { // that survive of what was pending
				for call := range 5 {
					d := newDisk(t, 1<<22)
					d.Halt(calls)
					out := play(d, o, newModel(), deeds)
					if fell = out.err != nil; !fell {
						break
					}
					c := api.Crash{Names: r.Intn(5), Bytes: make([]int, 300)}
					for i := range c.Bytes {
						c.Bytes[i] = bytes
					}
					d.Restart(c)
					d.Halt(call)
					if _, err := lsm.Open(d, o); err != nil {
						opens++
					}
					d.Restart(crashes(r)[r.Intn(7)])
					settled(t, r, opened(t, d, o), out)
				}
			}
		}
		if opens < 100 {
			t.Errorf("too few Opens were cut off: %d", opens)
		}
	})
}

// TestEveryCut: a log that is cut off anywhere within a record that was never acknowledged, at each place of a block.
func TestEveryCut(t *testing.T) {
	t.Parallel()
	for pad := range 70 {
		for _, size := range []int{0, 1, 30, 50, 51, 52, 57, 120, 200} {
			big := []api.Op{set("key", string(make([]byte, size)))}
			for cut := 0; ; cut++ {
				d := newDisk(t, 1<<20)
				db := opened(t, d, options())
				m := newModel()
				first := []api.Op{set("first", string(make([]byte, pad)))}
				m.write(first)
				if err := db.Write(first); err != nil {
					t.Fatal(err)
				}
				d.Halt(1) // the record is there, its Sync isn't
				before := d.Used()
				if err := db.Write(big); !is(err, api.ErrDiskDown) {
					t.Fatal(err)
				}
				length := d.Used() - before
				d.Restart(api.Crash{Bytes: []int{cut}})
				again := opened(t, d, options())
				if cut >= length {
					m.write(big)
				}
				if again.Last() != m.last() || say(again, again.Last()) != m.sayWorld(m.last()) {
					t.Fatalf("P11.7: pad %d, size %d, cut %d of %d: Last %d", pad, size, cut, length, again.Last())
				}
				if cut < length && d.Used() != before {
					t.Fatalf("P11.7: pad %d, size %d, cut %d: what was torn isn't cut off", pad, size, cut)
				}
				if cut > length {
					break
				}
				if length > 100 && cut > 10 && cut < length-10 {
					cut += 6
				}
			}
		}
	}
}

// TestOpenNeedsNoRoom: that an Open of a store's files writes nothing, makes no file, and needs no room, whatever was left, and that what it tells is sure.
func TestOpenNeedsNoRoom(t *testing.T) {
	t.Parallel()
	seeded(t, 80, func(t *testing.T, r *rand.Rand) {
		d, m := newDisk(t, 1<<16), newModel()
		d.Create("mine")
		d.SyncDir()
		d.Halt(4 + r.Intn(80))
		out := play(d, options(), m, drawnDeeds(r, 60))
		d.Restart(drawnCrash(r))
		fill(d, 1<<16)
		names, used := sayNames(d), d.Used()
		db := opened(t, d, options())
		if sayNames(d) != names || d.Used() > used {
			t.Fatalf("P11.7: %s of %d bytes, then %s of %d", names, used, sayNames(d), d.Used())
		}
		settled(t, r, db, out)
		used = d.Used()
		d.Restart(api.Crash{})
		if d.Used() != used || sayNames(d) != names {
			t.Fatalf("P11.7: what Open left wasn't sure")
		}
		settled(t, r, opened(t, d, options()), outcome{m: m})
	})
}

// fill: a disk without any room, by a file that is no store's.
func fill(d *disk.Disk, capacity int) {
	d.Append("mine", make([]byte, capacity-d.Used()))
	d.Sync("mine")
}

// TestWithoutRestart: a store that was left, or is dead, opened again without any fall of power: what is told then is sure, if power falls behind that.
func TestWithoutRestart(t *testing.T) {
	t.Parallel()
	seeded(t, 120, func(t *testing.T, r *rand.Rand) {
		d, m := newDisk(t, 1<<22), newModel()
		for range 6 {
			d.Fail(r.Intn(60))
			out := play(d, options(), m, drawnDeeds(r, 30))
			if out.err != nil && !is(out.err, api.ErrDiskIO) {
				t.Fatalf("P11.5: %v", out.err)
			}
			d.Fail(0)
			settled(t, r, opened(t, d, options()), out)
			d.Restart(crashes(r)[r.Intn(7)])
			settled(t, r, opened(t, d, options()), outcome{m: m})
		}
	})
}
