package freezer_test

import (
	"math/rand"
	"testing"

	"moraine/api"
)

// deadNow: what a freezer tells when a changing call of the disk has answered an error: all that it told ahead of it.
func deadNow(t *testing.T, out outcome, want api.Errno) {
	t.Helper()
	if !is(out.err, want) {
		t.Fatalf("P12.4: %s: %v", out.did.what, out.err)
	}
	agree(t, out.f, out.m)
	refuses(t, out.f, out.m)
	agree(t, out.f, out.m)
}

// TestFails: each changing call of the disk fails, in the midst of each call of the freezer.
func TestFails(t *testing.T) {
	t.Parallel()
	seeded(t, 32, func(t *testing.T, seed int64) {
		r := rand.New(rand.NewSource(seed))
		met := map[string]int{}
		room, tables := rooms()[seed%4], someTables(1+int(seed/4)%3)
		for call, failed := 1, true; failed; call++ {
			for kind := range 5 {
				d, m := newDisk(t, 1<<22), newModel(tables, room)
				d.Fail(call)
				out := play(t, d, m, rand.New(rand.NewSource(seed)), 40, outcome{m: m})
				if failed = out.err != nil; !failed {
					break
				}
				if out.f == nil {
					met["open"]++
					if !is(out.err, api.ErrDiskIO) {
						t.Fatalf("P12.1: %v", out.err)
					}
				} else {
					met[out.did.what]++
					deadNow(t, out, api.ErrDiskIO)
				}
				if kind > 1 {
					d.Restart(anyCrash(r))
				}
				if kind%2 == 0 {
					sureNow(t, d, out)
					out = outcome{m: m}
				}
				goesOn(t, d, r, out)
			}
		}
		for _, what := range []string{"open", "append", "head", "tail", "sync"} {
			if met[what] < 1 {
				t.Errorf("too few failed: %v", met)
			}
		}
	})
}

// TestFailsOfOpen: each changing call fails of an Open that takes a freezer up; it may be opened at once again.
func TestFailsOfOpen(t *testing.T) {
	t.Parallel()
	seeded(t, 40, func(t *testing.T, seed int64) {
		r := rand.New(rand.NewSource(seed))
		fall := 8 + r.Intn(60)
		c := anyCrash(r)
		for call, failed := 1, true; failed; call++ {
			d, m := newDisk(t, 1<<22), newModel(someTables(3), rooms()[seed%4])
			d.Halt(fall)
			out := play(t, d, m, rand.New(rand.NewSource(seed)), 40, outcome{m: m})
			d.Restart(c)
			d.Fail(call)
			f, err := m.open(d)
			if failed = err != nil; failed && (f != nil || !is(err, api.ErrDiskIO)) {
				t.Fatalf("P12.1: %v", err)
			}
			if r.Intn(2) == 0 {
				d.Restart(drawnCrash(r))
			}
			d.Fail(0)
			sureNow(t, d, out)
		}
	})
}

// TestFull: disks of each capacity, up to one that is enough.
func TestFull(t *testing.T) {
	t.Parallel()
	seeded(t, 12, func(t *testing.T, seed int64) {
		r := rand.New(rand.NewSource(seed))
		room, tables := rooms()[seed%3], someTables(1+int(seed/3)%4)
		found := 0
		for capacity, full := 0, true; full; capacity++ {
			d, m := newDisk(t, capacity), newModel(tables, room)
			out := play(t, d, m, rand.New(rand.NewSource(seed)), 30, outcome{m: m})
			if full = out.err != nil; !full {
				break
			}
			found++
			if out.f == nil || out.did.what != "append" {
				t.Fatalf("capacity %d: %s needs room: %v", capacity, out.did.what, out.err)
			}
			deadNow(t, out, api.ErrDiskFull)
			if r.Intn(2) == 0 {
				d.Restart(drawnCrash(r))
			}
			sureNow(t, d, out)
			// A disk that is full is so for what comes next, too.
			f, err := m.open(d)
			if err != nil {
				t.Fatal(err)
			}
			for _, x := range []deed{{what: "sync"}, {what: "tail", n: m.tail + r.Intn(m.head-m.tail+1)}, {what: "head", n: m.head}} {
				if err := x.do(f); err != nil {
					t.Fatalf("%s on a disk that is full: %v", x.what, err)
				}
				m.done(x)
			}
			agree(t, f, m)
		}
		if found < 20 {
			t.Errorf("too few disks were full: %d", found)
		}
	})
}

// TestNoMoreFiles: that a disk that has made all files that it ever makes is told, by Open and by an Append that needs one.
func TestNoMoreFiles(t *testing.T) {
	t.Parallel()
	d := newDisk(t, 1<<20)
	m := newModel(someTables(2), 100)
	made := 0
	for ; made < api.MaxFiles-3; made++ {
		d.Create("x")
		d.Remove("x")
		if made%1000 == 0 {
			d.SyncDir()
		}
	}
	d.SyncDir()
	out := play(t, d, m, rand.New(rand.NewSource(1)), 200, outcome{m: m})
	if out.f == nil || out.did.what != "append" {
		t.Fatalf("%v", out.err)
	}
	deadNow(t, out, api.ErrDiskFull)
	sureNow(t, d, out)
	other := newDisk(t, 1<<20)
	for range api.MaxFiles - 1 {
		other.Create("x")
		other.Remove("x")
	}
	for range 2 {
		if f, err := m.open(other); f != nil || !is(err, api.ErrDiskFull) {
			t.Errorf("P12.1: %v", err)
		}
		other.Restart(api.Crash{Names: 1 << 30})
	}
}
