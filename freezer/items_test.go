package freezer_test

import (
	"fmt"
	"math"
	"math/rand"
	"strings"
	"testing"

	"moraine/api"
	"moraine/disk"
	"moraine/freezer"
)

func TestExamples(t *testing.T) {
	for names := range 4 {
		d := newDisk(t, 1<<20)
		f := opened(t, d, []string{"head", "body"})
		if f.Append(0, item("x", "y")) != nil || f.Append(1, item("z", "w")) != nil || f.TruncateTail(1) != nil {
			t.Error("P12.2, P12.3")
		}
		if b, err := f.Get(0, 0); len(b) != 0 || !is(err, api.ErrFreezerItem) {
			t.Errorf("P12.2: %q, %v", b, err)
		}
		if b, err := f.Get(1, 1); string(b) != "w" || err != nil {
			t.Errorf("P12.2: %q, %v", b, err)
		}
		d.Restart(api.Crash{Names: names})
		f = opened(t, d, []string{"head", "body"})
		if s := say(f, 2); s != "1-2:z,w," && s != "1-1:" {
			t.Errorf("P12.5: %s", s)
		}
	}
}

func TestTables(t *testing.T) {
	most := strings.Repeat("z", 16)
	eight := strings.Split("a,b,c,d,e,f,g,h", ",")
	for _, tables := range [][]string{{"a"}, {"z"}, {most}, {most[1:], most}, {"a", "aa"}, {"tail"}, {"part", "tail", "old", "draft"}, eight, names()} {
		d := newDisk(t, 1<<20)
		f := opened(t, d, tables)
		values := make([][]byte, len(tables))
		for i, name := range tables {
			values[i] = []byte(name)
		}
		if f.Tail() != 0 || f.Head() != 0 || f.Append(0, values) != nil || f.Append(1, values) != nil || f.Sync() != nil {
			t.Errorf("P12.1: %v", tables)
		}
		d.Restart(api.Crash{})
		f = opened(t, d, tables)
		for n := range 2 {
			for i, name := range tables {
				if b, err := f.Get(i, n); string(b) != name || err != nil {
					t.Errorf("P12.1: %v: Get(%d, %d): %q, %v", tables, i, n, b, err)
				}
			}
		}
	}
	bad := [][]string{nil, {}, {""}, {"a", ""}, {most + "z"}, {"a", most + "z"}, {"a", "a"}, {"a", "b", "a"}, append(eight, "i"), make([]string, 1000)}
	for _, c := range []string{"A", "Z", "`", "{", "0", "-", ".", "_", " ", ",", "\x00", "\xff", "é", "a-b", "a1"} {
		bad = append(bad, []string{c}, []string{"a", c})
	}
	for _, tables := range bad {
		d := newDisk(t, 1<<20)
		for range 3 {
			if f, err := freezer.Open(d, tables); f != nil || !is(err, api.ErrFreezerTables) {
				t.Errorf("P12.1: %q: %v", tables, err)
			}
			d.Halt(0) // it is told ahead of the disk's errors
			d.SyncDir()
		}
		if d.Count() != 3 {
			t.Errorf("P12.1: %q: the disk was touched", tables)
		}
	}
}

// TestOtherTables: a freezer that is opened with other tables than it was made with, whatever items it has.
func TestOtherTables(t *testing.T) {
	for appended := range 8 {
		d := newDisk(t, 1<<20)
		f := openedWith(t, d, names(), 30)
		for n := range appended {
			if f.Append(n, item("x", "y")) != nil || f.TruncateTail(n/2) != nil {
				t.Fatal("P12.2")
			}
		}
		was, count := say(f, 2), d.Count()
		for _, tables := range [][]string{{"head"}, {"body"}, {"body", "head"}, {"head", "body", "more"}, {"more", "head", "body"}, {"head", "bodies"}, {"heads", "body"}, {"head", "bod"}, {"other"}, {"x", "y"}, strings.Split("a,b,c,d,e,f,g,h", ",")} {
			if f, err := freezer.Open(d, tables); f != nil || !is(err, api.ErrFreezerTables) {
				t.Errorf("P12.1: %v: %v", tables, err)
			}
		}
		if d.Count() != count {
			t.Error("P12.1: the disk was changed")
		}
		d.Restart(api.Crash{})
		if f := opened(t, d, names()); say(f, 2) != was && appended > 0 {
			t.Errorf("P12.1: %s, not %s", say(f, 2), was)
		}
	}
}

func TestAppend(t *testing.T) {
	great := strings.Repeat("v", api.MaxValue)
	for i, c := range []struct {
		n      int
		values [][]byte
		want   api.Errno
	}{
		{2, item("a", "b"), api.OK},
		{2, item("", ""), api.OK},
		{2, [][]byte{nil, nil}, api.OK},
		{2, item(great, great), api.OK},
		{2, item(great[1:], ""), api.OK},
		{1, item("a", "b"), api.ErrFreezerItem},
		{3, item("a", "b"), api.ErrFreezerItem},
		{0, item("a", "b"), api.ErrFreezerItem},
		{-1, item("a", "b"), api.ErrFreezerItem},
		{math.MaxInt, item("a", "b"), api.ErrFreezerItem},
		{math.MinInt, item("a", "b"), api.ErrFreezerItem},
		{2, nil, api.ErrFreezerTables},
		{2, [][]byte{}, api.ErrFreezerTables},
		{2, item("a"), api.ErrFreezerTables},
		{2, item("a", "b", "c"), api.ErrFreezerTables},
		{2, make([][]byte, 1000), api.ErrFreezerTables},
		{2, item(great+"v", "b"), api.ErrFreezerTables},
		{2, item("a", great+"v"), api.ErrFreezerTables},
		{3, item("a", great+"v"), api.ErrFreezerTables},
		{1, item("a"), api.ErrFreezerTables},
		{-1, nil, api.ErrFreezerTables},
	} {
		d, m := newDisk(t, 1<<20), newModel(names(), freezer.PartBytes)
		f := opened(t, d, names())
		for n := range 2 {
			x := deed{"append", n, []string{fmt.Sprint("a", n), fmt.Sprint("b", n)}}
			if err := x.do(f); err != nil {
				t.Fatal(err)
			}
			m.done(x)
		}
		count := d.Count()
		if err := f.Append(c.n, c.values); !is(err, c.want) {
			t.Errorf("P12.2: row %d: %v", i, err)
		}
		if c.want == api.OK {
			m.done(deed{"append", c.n, []string{string(c.values[0]), string(c.values[1])}})
		} else if d.Count() != count {
			t.Errorf("P12.2: row %d: the disk was changed", i)
		}
		agree(t, f, m)
		f.Sync()
		d.Restart(api.Crash{})
		agree(t, opened(t, d, names()), m)
	}
}

func TestGet(t *testing.T) {
	f := opened(t, newDisk(t, 1<<20), names())
	for n := range 6 {
		if f.Append(n, item(fmt.Sprint("a", n), fmt.Sprint("b", n))) != nil {
			t.Fatal("P12.2")
		}
	}
	if f.TruncateTail(2) != nil || f.TruncateHead(5) != nil {
		t.Fatal("P12.3")
	}
	numbers := []int{math.MinInt, -1, 0, 1, 2, 3, 4, 5, 6, math.MaxInt}
	for _, table := range numbers {
		for _, n := range numbers {
			want, value := api.OK, ""
			switch {
			case table < 0 || table > 1:
				want = api.ErrFreezerTables
			case n < 2 || n > 4:
				want = api.ErrFreezerItem
			default:
				value = fmt.Sprint(string(rune('a'+table)), n)
			}
			if b, err := f.Get(table, n); string(b) != value || !is(err, want) {
				t.Errorf("P12.2: Get(%d, %d): %q, %v", table, n, b, err)
			}
		}
	}
}

// filled: a freezer with the items from tail to head - 1, and its model.
func filled(t *testing.T, tail, head, room int) (*disk.Disk, *freezer.Freezer, *model) {
	t.Helper()
	d, m := newDisk(t, 1<<22), newModel(names(), room)
	f := openedWith(t, d, names(), room)
	do := func(x deed) {
		if err := x.do(f); err != nil {
			t.Fatal(err)
		}
		m.done(x)
	}
	for n := range head {
		m.serial++
		do(deed{"append", n, []string{fmt.Sprint("a", n), strings.Repeat("b", n)}})
	}
	do(deed{what: "tail", n: tail})
	return d, f, m
}

// TestTruncates: to each item, and to what is none; and items that are appended anew behind that, with other values.
func TestTruncates(t *testing.T) {
	t.Parallel()
	for _, room := range rooms() {
		for _, span := range [][2]int{{0, 0}, {0, 1}, {1, 1}, {0, 9}, {4, 9}, {9, 9}} {
			for _, what := range []string{"head", "tail"} {
				for n := span[0] - 2; n <= span[1]+2; n++ {
					d, f, m := filled(t, span[0], span[1], room)
					x, count := deed{what: what, n: n}, d.Count()
					err := x.do(f)
					if n < span[0] || n > span[1] {
						if !is(err, api.ErrFreezerItem) || d.Count() != count {
							t.Errorf("P12.3: %s to %d of %s: %v", what, n, m.say(), err)
						}
						agree(t, f, m)
						continue
					}
					if err != nil {
						t.Fatalf("P12.3: %s to %d of %s: %v", what, n, m.say(), err)
					}
					m.done(x)
					agree(t, f, m)
					d.Restart(api.Crash{})
					f = openedWith(t, d, names(), room)
					agree(t, f, m)
					for k := range 8 {
						more := deed{"append", m.head, []string{fmt.Sprint("new", k), strings.Repeat("new", k)}}
						if err := more.do(f); err != nil {
							t.Fatal(err)
						}
						m.done(more)
					}
					agree(t, f, m)
					if f.Sync() != nil {
						t.Fatal("P12.3")
					}
					d.Restart(api.Crash{})
					agree(t, openedWith(t, d, names(), room), m)
				}
			}
		}
	}
	f := opened(t, newDisk(t, 1<<20), names())
	for _, n := range []int{math.MinInt, math.MaxInt} {
		if !is(f.TruncateHead(n), api.ErrFreezerItem) || !is(f.TruncateTail(n), api.ErrFreezerItem) {
			t.Errorf("P12.3: %d", n)
		}
	}
}

// TestSync: of nothing, of many, and twice; what was synced is there whatever falls behind that.
func TestSync(t *testing.T) {
	for _, room := range rooms() {
		for count := range 12 {
			d, f, m := filled(t, 0, 0, room)
			for n := range count {
				m.done(deed{"append", n, []string{fmt.Sprint(n), strings.Repeat("x", n*n)}})
				if err := f.Append(n, item(m.items[n]...)); err != nil {
					t.Fatal(err)
				}
			}
			for range 2 {
				if err := f.Sync(); err != nil {
					t.Fatalf("P12.3: %v", err)
				}
			}
			agree(t, f, m)
			f.Append(count, item("not", "sure"))
			d.Restart(api.Crash{})
			agree(t, openedWith(t, d, names(), room), m)
		}
	}
}

// TestNotSynced: that an Append alone doesn't touch the items ahead of it, and may be lost.
func TestNotSynced(t *testing.T) {
	d, f, m := filled(t, 0, 3, freezer.PartBytes)
	f.Append(3, item("x", "y"))
	d.Restart(api.Crash{})
	again := opened(t, d, names())
	settled(t, again, outcome{m: m, did: deed{"append", 3, []string{"x", "y"}}})
}

// TestClosed: each call behind Close.
func TestClosed(t *testing.T) {
	for _, dead := range []bool{false, true} {
		d, f, m := filled(t, 2, 5, 30)
		if dead {
			d.Fail(1)
			if !is(f.Sync(), api.ErrDiskIO) {
				t.Error("P12.4")
			}
		}
		count := d.Count()
		if err := f.Close(); err != nil {
			t.Errorf("P12.3: Close: %v", err)
		}
		d.Fail(1) // whatever changes the disk is told
		refuses(t, f, m)
		for _, n := range []int{1, 2, 4, 5} {
			for table := range 3 {
				if b, err := f.Get(table, n); len(b) != 0 || !is(err, api.ErrFreezerClosed) {
					t.Errorf("P12.2: %q, %v", b, err)
				}
			}
		}
		if err := f.Close(); !is(err, api.ErrFreezerClosed) {
			t.Errorf("P12.3: Close: %v", err)
		}
		if f.Tail() != 2 || f.Head() != 5 || d.Count() != count {
			t.Errorf("P12.3: %d, %d", f.Tail(), f.Head())
		}
		d.Fail(0)
		agree(t, openedWith(t, d, names(), 30), m)
	}
}

// TestWhole: many deeds of freezers without any fault, opened again now and then, with the same parts or with others.
func TestWhole(t *testing.T) {
	t.Parallel()
	seeded(t, 40, func(t *testing.T, seed int64) {
		r := rand.New(rand.NewSource(seed))
		d, m := newDisk(t, 1<<24), newModel(someTables(1+r.Intn(api.MaxTables)), 0)
		for range 12 {
			m.room = rooms()[r.Intn(4)]
			out := play(t, d, m, r, r.Intn(40), outcome{m: m})
			if out.err != nil {
				t.Fatal(out.err)
			}
			agree(t, out.f, m)
			m.sure = m.head // nothing is lost without a fall of power
			if r.Intn(2) == 0 {
				out.f.Close()
			}
		}
	})
}

// TestApart: two freezers on two disks, and a store of another's files on one of them, don't touch one another.
func TestApart(t *testing.T) {
	one, two := newDisk(t, 1<<20), newDisk(t, 1<<20)
	f, g := opened(t, one, names()), opened(t, two, []string{"x"})
	f.Append(0, item("a", "b"))
	g.Append(0, item("c"))
	g.Append(1, item("d"))
	f.Close()
	if say(g, 1) != "0-2:c,d," || g.Append(2, item("e")) != nil || f.Head() != 1 {
		t.Errorf("P12.2: %s", say(g, 1))
	}
}

// TestTailGivesRoomBack: that items that are cut off at the tail don't fill the disk for ever.
func TestTailGivesRoomBack(t *testing.T) {
	t.Parallel()
	d := newDisk(t, 1<<19)
	f := opened(t, d, names())
	value := make([]byte, 8000)
	for n := range 400 {
		if err := f.Append(n, [][]byte{value, value[:10]}); err != nil {
			t.Fatalf("item %d: %v", n, err)
		}
		if n >= 20 && f.TruncateTail(n-20) != nil {
			t.Fatal("P12.3")
		}
	}
	if names, _ := d.Names(); len(names) > 10 || d.Used() > 1<<18 {
		t.Errorf("%v: %d bytes", names, d.Used())
	}
	for tail := range 13 { // parts of one item: the last one stays
		d, f, _ := filled(t, 0, 12, 1)
		if f.TruncateTail(tail) != nil || len(freezerNames(d)) != 1+2*max(12-tail, 1) {
			t.Errorf("Tail %d: %v", tail, freezerNames(d))
		}
	}
}
