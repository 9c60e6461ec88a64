package lsm_test

import (
	"fmt"
	"math"
	"math/rand"
	"strings"
	"testing"

	"moraine/api"
	"moraine/lsm"
)

func TestExamples(t *testing.T) {
	db := opened(t, newDisk(t, 1<<20), options())
	if err := db.Write([]api.Op{set("a", "1"), set("b", "2")}); err != nil || db.Last() != 2 {
		t.Fatalf("P11.2: %v, %d", err, db.Last())
	}
	at, err := db.Hold()
	if at != 2 || err != nil {
		t.Errorf("P11.3: Hold: %d, %v", at, err)
	}
	if err := db.Write([]api.Op{del("a")}); err != nil || db.Last() != 3 {
		t.Errorf("P11.2: %v, %d", err, db.Last())
	}
	for range 3 {
		v, ok, err := db.Get([]byte("a"))
		if len(v) != 0 || ok || err != nil {
			t.Errorf("P11.3: Get(a): %q, %v, %v", v, ok, err)
		}
		l, err := db.Range(nil, nil, 3, 10)
		if sayRange(l) != `"b"="2" ` || err != nil {
			t.Errorf("P11.3: Range: %v, %v", l, err)
		}
		if v, ok, err := db.GetAt([]byte("a"), 2); string(v) != "1" || !ok || err != nil {
			t.Errorf("P11.9: GetAt(a, 2): %q, %v, %v", v, ok, err)
		}
		if err := db.Flush(); err != nil {
			t.Error(err)
		}
		if _, err := db.Compact(0); err != nil {
			t.Error(err)
		}
	}
}

func TestOptions(t *testing.T) {
	type change func(*api.Options)
	plan := func(f func(*api.Plan, int), n int) change { return func(o *api.Options) { f(&o.Plan, n) } }
	sizes := func(f func(*api.Sizes, int), n int) change { return func(o *api.Options) { f(&o.Sizes, n) } }
	heights := func(n int) change { return func(o *api.Options) { o.Heights = make([]int, n) } }
	block := func(p *api.Plan, n int) { p.Block = n }
	restart := func(p *api.Plan, n int) { p.Restart = n }
	bits := func(p *api.Plan, n int) { p.Bits = n }
	table := func(p *api.Plan, n int) { p.Table = n }
	tables0 := func(s *api.Sizes, n int) { s.Tables0 = n }
	bytes1 := func(s *api.Sizes, n int) { s.Bytes1 = n }
	factor := func(s *api.Sizes, n int) { s.Factor = n }
	good := []change{
		plan(block, 16), plan(block, 65536), plan(restart, 1), plan(restart, 64), plan(bits, 1), plan(bits, 64), plan(table, 16), plan(table, 1<<22),
		sizes(tables0, 1), sizes(tables0, 64), sizes(bytes1, 1), sizes(bytes1, 1<<30), sizes(factor, 2), sizes(factor, 16),
		heights(0), heights(64), func(o *api.Options) { o.Heights = []int{math.MinInt, 0, math.MaxInt} },
	}
	bad := []change{
		plan(block, 15), plan(block, 65537), plan(restart, 0), plan(restart, 65), plan(bits, 0), plan(bits, 65), plan(table, 15), plan(table, 1<<22+1),
		sizes(tables0, 0), sizes(tables0, 65), sizes(bytes1, 0), sizes(bytes1, 1<<30+1), sizes(factor, 1), sizes(factor, 17), sizes(factor, math.MinInt),
		heights(65), heights(1000), func(o *api.Options) { *o = api.Options{} },
	}
	for want, l := range map[api.Errno][]change{api.OK: good, api.ErrLsmOptions: bad} {
		for i, f := range l {
			o := options()
			f(&o)
			d := newDisk(t, 1<<16)
			db, err := lsm.Open(d, o)
			if lsm.Check(o) != want || !is(err, want) || (db == nil) != (want != api.OK) {
				t.Errorf("P11.1: row %d: %v: %d, %v", i, o, lsm.Check(o), err)
			}
			if want != api.OK && d.Count() > 0 {
				t.Errorf("P11.1: row %d: the disk was changed", i)
			}
			if want == api.OK && (db.Write([]api.Op{set("a", "1")}) != nil || db.Flush() != nil || say(db, 1) != `"a"="1" `) {
				t.Errorf("P11.1: row %d: %s", i, say(db, 1))
			}
		}
	}
}

func TestNewStore(t *testing.T) {
	db := opened(t, newDisk(t, 0), options())
	if db.Last() != 0 || say(db, 0) != "" || fmt.Sprint(db.Version()) != fmt.Sprint(api.Version{}) || db.Dead() != nil {
		t.Errorf("P11.1: %d, %s, %v", db.Last(), say(db, 0), db.Version())
	}
	if at, err := db.Hold(); at != 0 || err != nil || db.Release(0) != nil {
		t.Errorf("P11.3: %d, %v", at, err)
	}
}

// total: operations whose keys, values and 24 bytes for each come to n together.
func total(n int) []api.Op {
	var l []api.Op
	for n >= 40+24 {
		size := min(n-40, api.MaxValue)
		if n-40-size < 64 && n-40-size > 0 {
			size -= 64
		}
		l = append(l, set(strings.Repeat("k", 16), strings.Repeat("v", size)))
		n -= 40 + size
	}
	return l
}

func sizeOf(l []api.Op) int {
	n := 0
	for _, op := range l {
		n += len(op.Key) + len(op.Value) + 24
	}
	return n
}

func TestBatches(t *testing.T) {
	key, value := strings.Repeat("k", api.MaxKey), strings.Repeat("v", api.MaxValue)
	many := make([]api.Op, api.MaxBatch+1)
	full, over := total(api.MaxRecord-64), total(api.MaxRecord-63)
	if sizeOf(full) != api.MaxRecord-64 || sizeOf(over) != api.MaxRecord-63 {
		t.Fatalf("the test's own batches: %d, %d", sizeOf(full), sizeOf(over))
	}
	for i, c := range []struct {
		batch []api.Op
		want  api.Errno
	}{
		{nil, api.OK},
		{[]api.Op{}, api.OK},
		{[]api.Op{{}}, api.OK},
		{[]api.Op{{Delete: true}}, api.OK},
		{[]api.Op{{Delete: true, Key: []byte("a"), Value: []byte{}}}, api.OK},
		{[]api.Op{set(key, value)}, api.OK},
		{[]api.Op{del(key)}, api.OK},
		{many[:api.MaxBatch], api.OK},
		{full, api.OK},
		{[]api.Op{set(key+"k", "")}, api.ErrLsmBatch},
		{[]api.Op{del(key + "k")}, api.ErrLsmBatch},
		{[]api.Op{set("a", value+"v")}, api.ErrLsmBatch},
		{[]api.Op{{Delete: true, Key: []byte("a"), Value: []byte("x")}}, api.ErrLsmBatch},
		{[]api.Op{set("a", "1"), set("b", "2"), {Delete: true, Value: []byte("x")}}, api.ErrLsmBatch},
		{many, api.ErrLsmBatch},
		{over, api.ErrLsmBatch},
	} {
		d := newDisk(t, 1<<24)
		db, m := opened(t, d, options()), newModel()
		if i%2 == 0 {
			first := []api.Op{set("first", "1")}
			m.write(first)
			if err := db.Write(first); err != nil {
				t.Fatal(err)
			}
		}
		before := d.Count()
		if err := db.Write(c.batch); !is(err, c.want) {
			t.Errorf("P11.2: row %d: %v", i, err)
		}
		if c.want == api.OK {
			m.write(c.batch)
		}
		if (c.want != api.OK || len(c.batch) == 0) && d.Count() > before {
			t.Errorf("P11.2: row %d: the disk was changed", i)
		}
		for range 2 {
			if db.Last() != m.last() || say(db, db.Last()) != m.sayWorld(m.last()) {
				t.Errorf("P11.2: row %d: Last %d", i, db.Last())
			}
			d.Restart(api.Crash{})
			db = opened(t, d, options())
		}
	}
}

func TestSeveralWrites(t *testing.T) {
	r := rand.New(rand.NewSource(1))
	for range 20 {
		d := newDisk(t, 1<<22)
		db, m := opened(t, d, drawnOptions(r)), newModel()
		for range 30 {
			batch := drawnBatch(r, 9)
			if err := db.Write(batch); err != nil {
				t.Fatal(err)
			}
			m.write(batch)
		}
		agree(t, r, db, m)
	}
}

// TestClosed: each call behind Close.
func TestClosed(t *testing.T) {
	d := newDisk(t, 1<<20)
	db := opened(t, d, options())
	db.Write([]api.Op{set("a", "1")})
	db.Flush()
	db.Write([]api.Op{set("b", "1")})
	at, _ := db.Hold()
	count, used := d.Count(), d.Used()
	if err := db.Close(); err != nil {
		t.Errorf("P11.6: %v", err)
	}
	d.Fail(1) // whatever touches the disk is told
	for what, call := range map[string]func() error{
		"Write":                     func() error { return db.Write([]api.Op{set("a", "1")}) },
		"Write of none":             func() error { return db.Write(nil) },
		"Write of what isn't sound": func() error { return db.Write(make([]api.Op, api.MaxBatch+1)) },
		"Get": func() error {
			v, ok, err := db.Get([]byte("a"))
			if len(v) != 0 || ok {
				t.Errorf("P11.6: %q, %v", v, ok)
			}
			return err
		},
		"GetAt":              func() error { _, _, err := db.GetAt([]byte("a"), at); return err },
		"GetAt of no moment": func() error { _, _, err := db.GetAt([]byte("a"), 77); return err },
		"Range": func() error {
			l, err := db.Range(nil, nil, at, 1)
			if len(l) != 0 {
				t.Errorf("P11.6: %v", l)
			}
			return err
		},
		"Range of no moment and no limit": func() error { _, err := db.Range(nil, nil, 77, 0); return err },
		"Hold": func() error {
			n, err := db.Hold()
			if n != 0 {
				t.Errorf("P11.6: %d", n)
			}
			return err
		},
		"Release":              func() error { return db.Release(at) },
		"Release of no moment": func() error { return db.Release(77) },
		"Flush":                db.Flush,
		"Compact":              func() error { _, err := db.Compact(0); return err },
		"Compact of no level":  func() error { _, err := db.Compact(-1); return err },
		"Settle":               func() error { _, err := db.Settle(1); return err },
		"Settle of none":       func() error { _, err := db.Settle(0); return err },
		"Close":                db.Close,
	} {
		if err := call(); !is(err, api.ErrLsmClosed) {
			t.Errorf("P11.6: %s: %v", what, err)
		}
	}
	if db.Last() != 2 || fmt.Sprint(db.Version()) != fmt.Sprint(api.Version{}) || db.Dead() != nil {
		t.Errorf("P11.6: %d, %v, %v", db.Last(), db.Version(), db.Dead())
	}
	if d.Count() != count || d.Used() != used {
		t.Error("P11.6: the disk was touched")
	}
	d.Fail(0)
	again := opened(t, d, options())
	if say(again, 2) != `"a"="1" "b"="1" ` {
		t.Errorf("P11.7: %s", say(again, 2))
	}
	if err := again.Release(2); !is(err, api.ErrLsmSeq) {
		t.Errorf("P11.6: still held: %v", err)
	}
}

// TestClosedAndDead: that a store that was dead when it was closed tells why, and that it is closed.
func TestClosedAndDead(t *testing.T) {
	d := newDisk(t, 1<<20)
	db := opened(t, d, options())
	d.Fail(1)
	db.Write([]api.Op{set("a", "1")})
	if err := db.Close(); err != nil || !is(db.Dead(), api.ErrDiskIO) || !is(db.Write(nil), api.ErrLsmClosed) || !is(db.Flush(), api.ErrLsmClosed) {
		t.Errorf("P11.6: %v, %v", err, db.Dead())
	}
}
