package freezer_test

import (
	"math/rand"
	"testing"

	"moraine/api"
	"moraine/disk"
	"moraine/freezer"
)

// fallen: what a freezer tells while the power is down: it is dead, and what it tells of items is right, or that the power is down.
func fallen(t *testing.T, out outcome) {
	t.Helper()
	if !is(out.err, api.ErrDiskDown) {
		t.Fatalf("P12.4: %v", out.err)
	}
	if out.f == nil {
		return
	}
	m := out.m
	if out.f.Tail() != m.tail || out.f.Head() != m.head {
		t.Fatalf("P12.4: %d to %d, not %s", out.f.Tail(), out.f.Head(), m.say())
	}
	for n := m.tail; n < m.head; n++ {
		for i, want := range m.items[n] {
			b, err := out.f.Get(i, n)
			if string(b) != want && !is(err, api.ErrDiskDown) {
				t.Fatalf("P12.2: Get(%d, %d): %q, %v, not %q", i, n, b, err, want)
			}
		}
	}
	refuses(t, out.f, m)
}

// refuses: that a freezer that is dead, or closed, takes nothing any more.
func refuses(t *testing.T, f *freezer.Freezer, m *model) {
	t.Helper()
	for what, err := range map[string]error{
		"Append":                  f.Append(m.head, make([][]byte, len(m.tables))),
		"Append of no item":       f.Append(m.head+1, make([][]byte, len(m.tables))),
		"Append of too few":       f.Append(m.head, nil),
		"TruncateHead":            f.TruncateHead(m.head),
		"TruncateHead of no item": f.TruncateHead(m.head + 1),
		"TruncateTail":            f.TruncateTail(m.tail),
		"TruncateTail of no item": f.TruncateTail(-1),
		"Sync":                    f.Sync(),
	} {
		if !is(err, api.ErrFreezerClosed) {
			t.Fatalf("P12.4: %s: %v", what, err)
		}
	}
}

// goesOn: that a freezer can be opened, tells what it must, and takes items, which are sure when they were synced.
func goesOn(t *testing.T, d *disk.Disk, r *rand.Rand, last outcome) {
	t.Helper()
	out := play(t, d, last.m, r, 4, last)
	if out.err != nil {
		t.Fatalf("P12.5: it doesn't go on: %v", out.err)
	}
	if err := out.f.Sync(); err != nil {
		t.Fatal(err)
	}
	out.m.sure = out.m.head
	d.Restart(api.Crash{})
	f, err := out.m.open(d)
	if err != nil {
		t.Fatalf("P12.5: %v", err)
	}
	settled(t, f, out)
}

// sureNow: that behind Open all is sure.
func sureNow(t *testing.T, d *disk.Disk, last outcome) {
	t.Helper()
	f, err := last.m.open(d)
	if err != nil {
		t.Fatalf("P12.5: %v", err)
	}
	settled(t, f, last)
	d.Restart(api.Crash{})
	if f, err = last.m.open(d); err != nil {
		t.Fatalf("P12.5: %v", err)
	}
	agree(t, f, last.m)
}

// TestFalls: power falls at each changing call of the disk.
func TestFalls(t *testing.T) {
	t.Parallel()
	seeded(t, 32, func(t *testing.T, seed int64) {
		r := rand.New(rand.NewSource(seed))
		room, tables := rooms()[seed%4], someTables(1+int(seed/4)%3)
		calls := 0
		for fell := true; fell; calls++ {
			for kind := range crashKinds {
				d, m := newDisk(t, 1<<22), newModel(tables, room)
				d.Halt(calls)
				out := play(t, d, m, rand.New(rand.NewSource(seed)), 25, outcome{m: m})
				if fell = out.err != nil; !fell {
					break
				}
				fallen(t, out)
				d.Restart(crash(r, kind))
				sureNow(t, d, out)
				goesOn(t, d, r, outcome{m: m})
			}
		}
		if calls < 25 {
			t.Errorf("too few calls: %d", calls)
		}
	})
}

// TestFallsOverAndOver: power falls again and again, or calls fail, also while a freezer is opened, with a Restart in between or without one.
func TestFallsOverAndOver(t *testing.T) {
	t.Parallel()
	seeded(t, 200, func(t *testing.T, seed int64) {
		r := rand.New(rand.NewSource(seed))
		d, m := newDisk(t, 1<<24), newModel(someTables(1+r.Intn(4)), rooms()[seed%4])
		out := outcome{m: m}
		for range 40 {
			want := disturb(d, r)
			out = play(t, d, m, r, r.Intn(25), out)
			if out.err != nil && !is(out.err, want) {
				t.Fatalf("P12.4: %v", out.err)
			}
			if want == api.ErrDiskDown || r.Intn(2) == 0 {
				d.Restart(anyCrash(r))
			}
			d.Fail(0)
			d.Halt(-1)
		}
		sureNow(t, d, out)
	})
}

// TestGreatFalls: likewise, with values that fill parts as they are.
func TestGreatFalls(t *testing.T) {
	t.Parallel()
	seeded(t, 8, func(t *testing.T, seed int64) {
		r := rand.New(rand.NewSource(seed))
		d, m := newDisk(t, 1<<26), newModel(someTables(1+r.Intn(2)), freezer.PartBytes)
		m.great = true
		out := outcome{m: m}
		for range 12 {
			want := disturb(d, r)
			out = play(t, d, m, r, r.Intn(25), out)
			if out.err != nil && !is(out.err, want) {
				t.Fatalf("P12.4: %v", out.err)
			}
			d.Restart(anyCrash(r))
		}
		sureNow(t, d, out)
	})
}

// disturb lets power fall, or a call fail, soon; it tells the error.
func disturb(d *disk.Disk, r *rand.Rand) api.Errno {
	calls := r.Intn(40)
	if r.Intn(2) == 0 {
		calls = r.Intn(6)
	}
	if r.Intn(2) == 0 {
		d.Halt(calls)
		return api.ErrDiskDown
	}
	d.Fail(1 + calls)
	return api.ErrDiskIO
}

// TestFallsWhileOpened: power falls, or a call fails, at each changing call of an Open of what a fall had left.
func TestFallsWhileOpened(t *testing.T) {
	t.Parallel()
	seeded(t, 8, func(t *testing.T, seed int64) {
		r := rand.New(rand.NewSource(seed))
		tables, opens := someTables(2), 0
		for calls, fell := 0, true; fell; calls++ {
			for _, bytes := range []int{0, 1, 3, 8, 60, 1000} { // that survive of what was pending
				for call := range 10 {
					d, m := newDisk(t, 1<<22), newModel(tables, rooms()[seed%4])
					d.Halt(calls)
					out := play(t, d, m, rand.New(rand.NewSource(seed)), 14, outcome{m: m})
					if fell = out.err != nil; !fell {
						break
					}
					c := api.Crash{Names: r.Intn(5), Bytes: make([]int, 300)}
					for i := range c.Bytes {
						c.Bytes[i] = bytes + r.Intn(2)*bytes
					}
					d.Restart(c)
					if call%2 == 0 {
						d.Halt(call / 2)
					} else {
						d.Fail(1 + call/2)
					}
					if f, err := m.open(d); err != nil {
						opens++
					} else {
						settled(t, f, out)
						out = outcome{m: m}
					}
					if call%2 == 0 || r.Intn(2) == 0 {
						d.Restart(anyCrash(r))
					}
					d.Fail(0)
					sureNow(t, d, out)
				}
			}
		}
		if opens < 100 {
			t.Errorf("too few Opens were cut off: %d", opens)
		}
	})
}

// TestEveryCut: a value's bytes that are cut off anywhere.
func TestEveryCut(t *testing.T) {
	t.Parallel()
	for _, size := range []int{0, 1, 100, 125, 126, 127, 128, 200, 16381, 16382, 16383, api.MaxValue} {
		for cut := 0; ; cut++ {
			d, m := newDisk(t, 1<<20), newModel([]string{"a"}, 1<<16)
			f := opened(t, d, m.tables)
			first := deed{what: "append", values: []string{"first"}}
			if err := first.do(f); err != nil {
				t.Fatal(err)
			}
			m.done(first)
			if err := f.Sync(); err != nil {
				t.Fatal(err)
			}
			m.sure = 1
			before := d.Used()
			last := deed{what: "append", n: 1, values: []string{string(make([]byte, size))}}
			if err := last.do(f); err != nil {
				t.Fatal(err)
			}
			length := d.Used() - before
			d.Restart(api.Crash{Bytes: []int{cut}})
			f = opened(t, d, m.tables)
			want := 1
			if cut >= length {
				want = 2
			}
			if f.Head() != want {
				t.Fatalf("P12.5: size %d, %d of %d bytes: Head %d", size, cut, length, f.Head())
			}
			if cut < length && d.Used() != before {
				t.Fatalf("P12.5: size %d, %d of %d bytes: what was torn is still there", size, cut, length)
			}
			settled(t, f, outcome{m: m, did: last})
			if cut > length {
				break
			}
			if length > 1000 && cut > 20 && cut < length-200 {
				cut += 97
			}
		}
	}
}
