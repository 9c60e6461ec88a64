package lsm_test

import (
	"bytes"
	"fmt"
	"math"
	"math/rand"
	"slices"
	"strings"
	"testing"

	"moraine/api"
	"moraine/codec"
	"moraine/compact"
	"moraine/lsm"
	"moraine/manifest"
)

// counts: how many tables there are at each level.
func counts(v api.Version) [api.MaxLevels]int {
	var n [api.MaxLevels]int
	for level, files := range v.Levels {
		n[level] = len(files)
	}
	return n
}

func numbers(files []api.File) []int {
	var l []int
	for _, f := range files {
		l = append(l, f.Number)
	}
	return l
}

func TestFlush(t *testing.T) {
	d := newDisk(t, 1<<20)
	db := opened(t, d, options())
	flush := func(want int) {
		t.Helper()
		if err := db.Flush(); err != nil {
			t.Fatal(err)
		}
		v := db.Version()
		if n := counts(v); n != [api.MaxLevels]int{want} || manifest.Check(v) != api.OK {
			t.Fatalf("P11.4: %v", n)
		}
	}
	before := d.Count()
	flush(0)
	if d.Count() != before {
		t.Error("P11.4: a Flush of nothing touched the disk")
	}
	var big []api.Op
	for i := range 50 { // far more than a table is to have, yet one table
		big = append(big, set(fmt.Sprintf("k%02d", i), strings.Repeat("v", 50)))
	}
	db.Write(big)
	flush(1)
	flush(1)
	db.Write(nil)
	flush(1)
	db.Write([]api.Op{del("k77")})
	flush(2)
	v := db.Version()
	for i, want := range [][2]string{{"k00", "k49"}, {"k77", "k77"}} {
		f := v.Levels[0][i]
		least, _, _, _ := codec.Split(f.Least)
		most, _, _, _ := codec.Split(f.Most)
		if string(least) != want[0] || string(most) != want[1] || f.Size < 1 {
			t.Errorf("P11.4: table %d: %q, %q, %d", i, least, most, f.Size)
		}
	}
	db.Write([]api.Op{set("a", "1")})
	d.Restart(api.Crash{})
	db = opened(t, d, options())
	if counts(db.Version()) != [api.MaxLevels]int{2} {
		t.Errorf("P11.7: %v", counts(db.Version()))
	}
	flush(3) // what was written since the last Flush is known behind an Open
	d.Restart(api.Crash{})
	db = opened(t, d, options())
	flush(3)
}

// TestCompact: that what Compact does to the version is one Pick, merged into the next level.
func TestCompact(t *testing.T) {
	t.Parallel()
	r := rand.New(rand.NewSource(3))
	merged := 0
	for range 25 {
		o := drawnOptions(r)
		db, m := opened(t, newDisk(t, 1<<24), o), newModel()
		for range 120 {
			act(t, r, db, m)
			level := r.Intn(api.MaxLevels - 1)
			v := db.Version()
			done, err := db.Compact(level)
			if err != nil || done != (len(v.Levels[level]) > 0) {
				t.Fatalf("P11.4: Compact(%d): %v, %v of %v", level, done, err, counts(v))
			}
			if done {
				merged++
				isPick(t, v, db.Version(), level)
			} else if fmt.Sprint(v) != fmt.Sprint(db.Version()) {
				t.Fatalf("P11.4: Compact(%d) of nothing: %v", level, db.Version())
			}
			if r.Intn(4) == 0 {
				agree(t, r, db, m)
			}
		}
	}
	if merged < 500 {
		t.Errorf("too few were merged: %d", merged)
	}
}

// isPick: that b came of a by one Pick of a level.
func isPick(t *testing.T, a, b api.Version, level int) {
	t.Helper()
	starts := [][]byte{nil} // a Pick takes all of level 0, or some one table: the one behind another one
	for _, f := range a.Levels[level] {
		starts = append(starts, f.Most)
	}
	gone := missing(a, b)
	for _, after := range starts {
		task, _, _ := compact.Pick(a, level, after)
		want := [api.MaxLevels][]int{}
		want[level], want[level+1] = numbers(task.Upper), numbers(task.Lower)
		if fmt.Sprint(want) == fmt.Sprint(gone) {
			added := missing(b, a)
			added[level+1] = nil
			if fmt.Sprint(added) != fmt.Sprint([api.MaxLevels][]int{}) {
				t.Fatalf("P11.4: Compact(%d): added elsewhere: %v", level, added)
			}
			return
		}
	}
	t.Fatalf("P11.4: Compact(%d): no Pick: %v", level, gone)
}

// missing: the numbers of a's tables that b hasn't, by levels.
func missing(a, b api.Version) [api.MaxLevels][]int {
	var l [api.MaxLevels][]int
	for level, files := range a.Levels {
		for _, n := range numbers(files) {
			if !slices.Contains(numbers(b.Levels[level]), n) {
				l[level] = append(l[level], n)
			}
		}
	}
	return l
}

func TestCompactOfNoLevel(t *testing.T) {
	d := newDisk(t, 1<<20)
	db := opened(t, d, options())
	db.Write([]api.Op{set("a", "1")})
	db.Flush()
	before, v := d.Count(), fmt.Sprint(db.Version())
	for _, level := range []int{-1, api.MaxLevels - 1, api.MaxLevels, math.MinInt, math.MaxInt} {
		if done, err := db.Compact(level); done || !is(err, api.ErrCompactLevel) {
			t.Errorf("P11.4: Compact(%d): %v, %v", level, done, err)
		}
	}
	for _, level := range []int{1, 2, 3} { // without tables
		if done, err := db.Compact(level); done || err != nil {
			t.Errorf("P11.4: Compact(%d): %v, %v", level, done, err)
		}
	}
	if d.Count() != before || fmt.Sprint(db.Version()) != v || db.Dead() != nil {
		t.Errorf("P11.4: %v", db.Version())
	}
	for level := range api.MaxLevels - 1 { // down to the last one
		if done, err := db.Compact(level); !done || err != nil || counts(db.Version())[level+1] != 1 {
			t.Errorf("P11.4: Compact(%d): %v, %v, %v", level, done, err, counts(db.Version()))
		}
	}
}

// TestCompactByTurns: that tables of a level come to their turns, so that none waits for ever.
func TestCompactByTurns(t *testing.T) {
	o := options()
	o.Plan.Table = 16
	db := opened(t, newDisk(t, 1<<20), o)
	var batch []api.Op
	for i := range 6 {
		batch = append(batch, set(fmt.Sprintf("k%d", i), "a value"))
	}
	db.Write(batch)
	db.Flush()
	db.Compact(0)
	if n := counts(db.Version()); n != [api.MaxLevels]int{0, 6} {
		t.Fatalf("P11.4: %v", n)
	}
	for i := range 6 {
		db.Compact(1)
		db.Write([]api.Op{set(fmt.Sprintf("k%d", i), "another value")}) // what was merged is there anew
		db.Flush()
		db.Compact(0)
	}
	if n := counts(db.Version()); n != [api.MaxLevels]int{0, 6, 6} {
		t.Errorf("P11.4: %v", n)
	}
}

// TestDropped: that a Compact leaves nothing that nobody can see, and all that somebody can.
func TestDropped(t *testing.T) {
	for _, held := range []bool{false, true} {
		d := newDisk(t, 1<<20)
		db := opened(t, d, options())
		db.Write([]api.Op{set("a", "1"), set("b", strings.Repeat("long", 500))})
		if held {
			db.Hold()
		}
		db.Write([]api.Op{del("a"), del("b")})
		db.Flush()
		full := d.Used()
		db.Compact(0)
		want := [api.MaxLevels]int{}
		if held {
			want[1] = 1
			if s := say(db, 2); len(s) < 2000 || !strings.HasPrefix(s, `"a"="1" "b"="long`) {
				t.Errorf("P11.9: %s", s)
			}
		}
		if n := counts(db.Version()); n[1] < want[1] || !held && n != want || say(db, 4) != "" {
			t.Errorf("P11.4: held %v: %v", held, n)
		}
		if !held && d.Used() > 300 || held && d.Used() < full/2 {
			t.Errorf("P11.8: held %v: of %d bytes %d are used", held, full, d.Used())
		}
		if held {
			db.Release(2)
			db.Compact(1)
			if n := counts(db.Version()); say(db, 4) != "" || say(db, 2) != "error 112" {
				t.Errorf("P11.9: %v", n)
			}
		}
		d.Restart(api.Crash{})
		again := opened(t, d, options())
		if again.Last() != 4 || say(again, 4) != "" {
			t.Errorf("P11.7: held %v: %d, %s", held, again.Last(), say(again, 4))
		}
		if err := again.Write([]api.Op{set("c", "1")}); err != nil || again.Last() != 5 {
			t.Errorf("P11.7: %v, %d", err, again.Last())
		}
	}
}

// TestDeletesOfWhatIsDeeper: that a delete stays as long as something below needs it.
func TestDeletesOfWhatIsDeeper(t *testing.T) {
	db := opened(t, newDisk(t, 1<<20), options())
	db.Write([]api.Op{set("a", "1"), set("b", "1")})
	db.Flush()
	for level := range 4 {
		db.Compact(level)
	}
	db.Write([]api.Op{del("a")})
	db.Flush()
	for level := range 4 {
		if v, ok, err := db.Get([]byte("a")); ok || err != nil || say(db, 3) != `"b"="1" ` {
			t.Errorf("P11.9: ahead of Compact(%d): %q, %v; %s", level, v, err, say(db, 3))
		}
		db.Compact(level)
	}
	if v, ok, err := db.Get([]byte("a")); ok || err != nil || say(db, 3) != `"b"="1" ` {
		t.Errorf("P11.9: %q, %v; %s", v, err, say(db, 3))
	}
}

func TestSettle(t *testing.T) {
	t.Parallel()
	r := rand.New(rand.NewSource(4))
	for range 25 {
		o := drawnOptions(r)
		o.Sizes.Bytes1 = 64 << r.Intn(6)
		db, m := opened(t, newDisk(t, 1<<24), o), newModel()
		for range 12 {
			for range r.Intn(12) {
				act(t, r, db, m)
			}
			for _, n := range []int{0, -1, math.MinInt} {
				v := fmt.Sprint(db.Version())
				if done, err := db.Settle(n); done != 0 || err != nil || fmt.Sprint(db.Version()) != v {
					t.Fatalf("P11.4: Settle(%d): %d, %v", n, done, err)
				}
			}
			settleByOne(t, db, o, m)
			agree(t, r, db, m)
		}
	}
}

// settleByOne settles a store step by step, and holds each one against the chapter's words.
func settleByOne(t *testing.T, db *lsm.DB, o api.Options, m *model) {
	t.Helper()
	for steps := 0; ; steps++ {
		before := db.Version()
		unflushed := before.Seq < m.last()
		level, full, _ := compact.Score(before, o.Sizes)
		done, err := db.Settle(1)
		after := db.Version()
		switch {
		case err != nil || steps > 2000:
			t.Fatalf("P11.4: Settle: %v", err)
		case unflushed:
			before.Levels[0] = append(before.Levels[0], after.Levels[0][len(after.Levels[0])-1])
			if done != 1 || fmt.Sprint(before.Levels) != fmt.Sprint(after.Levels) {
				t.Fatalf("P11.4: Settle made no table: %d", done)
			}
		case full:
			if done != 1 {
				t.Fatalf("P11.4: Settle: %d of a full level %d", done, level)
			}
			isPick(t, before, after, level)
		default:
			if done != 0 || fmt.Sprint(before) != fmt.Sprint(after) {
				t.Fatalf("P11.4: Settle: %d where nothing is left", done)
			}
			return
		}
	}
}

func TestSettleOfMany(t *testing.T) {
	o := options()
	fill := func() *lsm.DB {
		db := opened(t, newDisk(t, 1<<22), o)
		for i := range 40 {
			db.Write([]api.Op{set(fmt.Sprintf("k%02d", i*7%40), strings.Repeat("v", 40))})
			if i%3 == 0 {
				db.Flush()
			}
		}
		return db
	}
	one := fill()
	steps := 0
	for {
		n, err := one.Settle(1)
		if err != nil {
			t.Fatal(err)
		}
		if n == 0 {
			break
		}
		steps++
	}
	for _, n := range []int{steps - 1, steps, steps + 1, math.MaxInt} {
		many := fill()
		done, err := many.Settle(n)
		if done != min(n, steps) || err != nil || steps < 5 {
			t.Errorf("P11.4: Settle(%d): %d, %v", n, done, err)
		}
		if same := fmt.Sprint(many.Version()) == fmt.Sprint(one.Version()); same != (n >= steps) {
			t.Errorf("P11.4: Settle(%d): %v", n, counts(many.Version()))
		}
	}
}

// TestFewTables: that the files that a Compact makes don't hang on how many keys there are: a disk makes only so many ever.
func TestFewTables(t *testing.T) {
	t.Parallel()
	o := options()
	o.Plan.Table = 16
	db := opened(t, newDisk(t, 1<<24), o)
	var batch []api.Op
	for i := range 3000 {
		batch = append(batch, set(fmt.Sprintf("key%05d", i), "some value"))
	}
	for range 3 {
		db.Write(batch)
		db.Flush()
		if done, err := db.Compact(0); !done || err != nil {
			t.Fatal(err)
		}
		if n := counts(db.Version()); n[1] > 256 || n[1] < 100 {
			t.Errorf("P11.8: %v", n)
		}
	}
	if l, err := db.Range(nil, nil, db.Last(), 5000); len(l) != 3000 || err != nil {
		t.Errorf("P11.3: %d, %v", len(l), err)
	}
}

// TestManyTables: more tables than one record of a manifest can name.
func TestManyTables(t *testing.T) {
	t.Parallel()
	const rounds = 66
	o := options()
	o.Plan.Table = 16
	d := newDisk(t, 1<<26)
	db := opened(t, d, o)
	key := func(i, j int) string { return strings.Repeat(fmt.Sprintf("%02d-%03d", i, j), 21) }
	for i := range rounds { // apart from one another, so that none is merged with others
		var batch []api.Op
		for j := range 240 {
			batch = append(batch, set(key(i, j), "v"))
		}
		db.Write(batch)
		db.Flush()
		if _, err := db.Compact(0); err != nil {
			t.Fatal(err)
		}
	}
	if n := counts(db.Version()); n[1] != rounds*240 {
		t.Fatalf("P11.4: %v", n)
	}
	if size, _ := d.Size("lsm-manifest"); size < api.MaxRecord*9/8 {
		t.Errorf("too few tables: a manifest of %d bytes", size)
	}
	d.Restart(api.Crash{})
	again := opened(t, d, o)
	if fmt.Sprint(again.Version()) != fmt.Sprint(db.Version()) || again.Last() != rounds*240 {
		t.Errorf("P11.7: %v", counts(again.Version()))
	}
	for i := range rounds {
		if v, ok, err := again.Get([]byte(key(i, i*3))); string(v) != "v" || !ok || err != nil {
			t.Errorf("P11.7: %q, %v", v, err)
		}
	}
}

// TestUnlike: that stores with unlike options, flushed and merged at unlike moments, tell the same.
func TestUnlike(t *testing.T) {
	t.Parallel()
	r := rand.New(rand.NewSource(5))
	for range 40 {
		m := newModel()
		stores := []*lsm.DB{}
		for range 3 {
			stores = append(stores, opened(t, newDisk(t, 1<<22), drawnOptions(r)))
		}
		for range 40 {
			batch := drawnBatch(r, 5)
			m.write(batch)
			for _, db := range stores {
				if err := db.Write(batch); err != nil {
					t.Fatal(err)
				}
			}
			holdAlike(t, r, stores, m)
			for _, db := range stores {
				for range r.Intn(4) {
					if err := disturb(r, db, r.Intn(3)); err != nil {
						t.Fatal(err)
					}
				}
			}
		}
		for _, db := range stores {
			agree(t, r, db, m)
		}
	}
}

// holdAlike holds, or releases, a moment in all stores and in their model, sometimes.
func holdAlike(t *testing.T, r *rand.Rand, stores []*lsm.DB, m *model) {
	t.Helper()
	hold, release := r.Intn(4) == 0, r.Intn(4) == 0
	for at := range m.held {
		for _, db := range stores {
			if release && db.Release(at) != nil {
				t.Fatalf("P11.3: %d isn't held", at)
			}
		}
		if release {
			m.held[at]--
		}
		if m.held[at] == 0 {
			delete(m.held, at)
		}
		break
	}
	for _, db := range stores {
		if hold {
			db.Hold()
		}
	}
	if hold {
		m.held[m.last()]++
	}
}

// disturb flushes or merges something, in at most so many steps.
func disturb(r *rand.Rand, db *lsm.DB, steps int) error {
	var err error
	switch r.Intn(3) {
	case 0:
		err = db.Flush()
	case 1:
		_, err = db.Compact(r.Intn(api.MaxLevels - 1))
	default:
		_, err = db.Settle(steps)
	}
	return err
}

// TestOptionsOfOthers: that a store may be opened again by any options.
func TestOptionsOfOthers(t *testing.T) {
	r := rand.New(rand.NewSource(6))
	for range 15 {
		d, m := newDisk(t, 1<<22), newModel()
		for range 8 {
			db := opened(t, d, drawnOptions(r))
			clear(m.held)
			agree(t, r, db, m)
			for range r.Intn(25) {
				act(t, r, db, m)
			}
			agree(t, r, db, m)
			if r.Intn(2) == 0 {
				db.Close()
			}
			if r.Intn(2) == 0 {
				d.Restart(api.Crash{})
			}
		}
	}
}

// TestSizesOfTables: that the version tells the sizes that files have.
func TestSizesOfTables(t *testing.T) {
	r := rand.New(rand.NewSource(7))
	d := newDisk(t, 1<<22)
	db, m := opened(t, d, options()), newModel()
	for range 60 {
		act(t, r, db, m)
	}
	db.Flush()
	var sizes, files []int
	for _, l := range db.Version().Levels {
		for _, f := range l {
			sizes = append(sizes, f.Size)
		}
	}
	names, _ := d.Names()
	for _, name := range names {
		b, _ := d.Read(name)
		if bytes.HasSuffix(b, []byte("moraine1")) { // as chapter 8 has tables
			files = append(files, len(b))
		}
	}
	slices.Sort(sizes)
	slices.Sort(files)
	if !slices.Equal(sizes, files) || len(sizes) == 0 {
		t.Errorf("P11.4: %v, %v", sizes, files)
	}
}
