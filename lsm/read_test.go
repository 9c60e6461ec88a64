package lsm_test

import (
	"bytes"
	"fmt"
	"math"
	"math/rand"
	"strings"
	"testing"

	"moraine/api"
	"moraine/lsm"
)

func TestMoments(t *testing.T) {
	db := opened(t, newDisk(t, 1<<20), options())
	write := func(ops ...api.Op) {
		t.Helper()
		if err := db.Write(ops); err != nil {
			t.Fatal(err)
		}
	}
	hold := func(want uint64) {
		t.Helper()
		if at, err := db.Hold(); at != want || err != nil {
			t.Errorf("P11.3: Hold: %d, %v", at, err)
		}
	}
	told := func(at uint64, want string) {
		t.Helper()
		if got := say(db, at); got != want {
			t.Errorf("P11.3: at %d: %s", at, got)
		}
	}
	const none = "error 112"
	hold(0)
	write(set("a", "1"), set("a", "2"))
	told(2, `"a"="2" `)
	told(1, none) // it never was one that could be held
	told(0, "")
	hold(2)
	hold(2)
	write(del("a"))
	told(3, "")
	told(2, `"a"="2" `)
	told(4, none)
	told(math.MaxUint64, none)
	if err := db.Release(2); err != nil {
		t.Errorf("P11.3: %v", err)
	}
	told(2, `"a"="2" `) // held twice, and released once
	if err := db.Release(2); err != nil {
		t.Errorf("P11.3: %v", err)
	}
	told(2, none)
	for _, at := range []uint64{1, 2, 3, 4, math.MaxUint64} {
		if err := db.Release(at); !is(err, api.ErrLsmSeq) {
			t.Errorf("P11.3: Release(%d): %v", at, err)
		}
	}
	told(0, "")
	if err := db.Release(0); err != nil {
		t.Errorf("P11.3: %v", err)
	}
	told(0, none)
	hold(3)
	if err := db.Release(3); err != nil {
		t.Errorf("P11.3: %v", err)
	}
	told(3, "") // Last needs no hold
}

// TestHeldAtZero: that the world ahead of all operations is kept, too.
func TestHeldAtZero(t *testing.T) {
	db := opened(t, newDisk(t, 1<<20), options())
	db.Hold()
	for range 3 {
		db.Write([]api.Op{set("a", "0"), del("b"), set("a", "1")})
		db.Flush()
		db.Compact(0)
		db.Compact(1)
		if v, ok, err := db.GetAt([]byte("a"), 0); len(v) != 0 || ok || err != nil || say(db, 0) != "" || say(db, db.Last()) != `"a"="1" ` {
			t.Errorf("P11.3: %q, %v, %v; %s; %s", v, ok, err, say(db, 0), say(db, db.Last()))
		}
	}
}

// spread: a store whose entries stand at all levels, and beside tables; and its model.
func spread(t *testing.T, r *rand.Rand, o api.Options) (*lsm.DB, *model) {
	t.Helper()
	db, m := opened(t, newDisk(t, 1<<24), o), newModel()
	for deepest := api.MaxLevels - 1; deepest >= 0; deepest-- {
		for range 4 {
			batch := drawnBatch(r, 12)
			m.write(batch)
			if err := db.Write(batch); err != nil {
				t.Fatal(err)
			}
			if err := db.Flush(); err != nil {
				t.Fatal(err)
			}
		}
		for level := range deepest {
			for range 1 + r.Intn(3) {
				if _, err := db.Compact(level); err != nil {
					t.Fatal(err)
				}
			}
		}
	}
	batch := append(drawnBatch(r, 12), set("key00", "now"))
	m.write(batch)
	if err := db.Write(batch); err != nil {
		t.Fatal(err)
	}
	return db, m
}

func TestRanges(t *testing.T) {
	r := rand.New(rand.NewSource(2))
	db, m := spread(t, r, options())
	w := m.world(m.last())
	ends := append(keys(), "zzz", "\xff\xff\xff", "key005", strings.Repeat("k", api.MaxKey+1), strings.Repeat("\xff", 500))
	for _, least := range ends {
		for _, most := range ends {
			for _, limit := range []int{1, 2, 7, len(w), api.MaxBatch} {
				if limit == 0 {
					continue
				}
				l, err := db.Range([]byte(least), []byte(most), m.last(), limit)
				if got, want := sayRange(l), rangeOf(w, least, most, limit); got != want || err != nil {
					t.Fatalf("P11.3: Range(%q, %q, %d): %s, %v; not %s", least, most, limit, got, err, want)
				}
			}
		}
	}
	for _, limit := range []int{0, -1, math.MinInt, api.MaxBatch + 1, math.MaxInt} {
		l, err := db.Range(nil, nil, m.last(), limit)
		if len(l) != 0 || !is(err, api.ErrLsmBatch) {
			t.Errorf("P11.3: limit %d: %d, %v", limit, len(l), err)
		}
		if _, err := db.Range(nil, nil, m.last()+1, limit); !is(err, api.ErrLsmSeq) {
			t.Errorf("P11.3: the moment ahead of the limit: %v", err)
		}
	}
	if l, err := db.Range([]byte("key05"), []byte("key04"), m.last(), 5); len(l) != 0 || err != nil {
		t.Errorf("P11.3: least behind most: %v, %v", l, err)
	}
}

// TestLongRanges: stores with far more entries than are merged at once, many of them of one key, or deleted.
func TestLongRanges(t *testing.T) {
	t.Parallel()
	for _, flush := range []int{0, 1, 3, 7, 40} {
		o := options()
		o.Plan.Table = 16 << (flush % 8)
		db, m := opened(t, newDisk(t, 1<<24), o), newModel()
		db.Hold()
		m.held[0]++
		for i := range 60 {
			var batch []api.Op
			for j := range 60 {
				switch k := fmt.Sprintf("k%04d", (i*613+j*71)%1500); {
				case j%20 == 0:
					batch = append(batch, set("", fmt.Sprint(i, j)), set("k0700", fmt.Sprint(i, j)))
				case j%7 == 0 || k > "k0300" && k < "k0600":
					batch = append(batch, del(k))
				default:
					batch = append(batch, set(k, fmt.Sprint(i, j)))
				}
			}
			m.write(batch)
			if err := db.Write(batch); err != nil {
				t.Fatal(err)
			}
			if i == 20 {
				db.Hold()
				m.held[m.last()]++
			}
			if flush > 0 && i%flush == 0 && i < 55 {
				if err := db.Flush(); err != nil {
					t.Fatal(err)
				}
				if flush > 1 {
					db.Settle(2)
				}
			}
		}
		m.held[m.last()]++
		for at := range m.held {
			longRanges(t, db, at, m.world(at))
		}
	}
}

// longRanges: that Range tells what a world has, from some places on, up to some places, with some limits.
func longRanges(t *testing.T, db *lsm.DB, at uint64, w map[string]string) {
	t.Helper()
	for _, limit := range []int{1, 63, 64, 65, 200, 5000} {
		for _, least := range []string{"", "\x00", "k0299", "k0301", "k0700", "k0701", "l"} {
			for _, most := range []string{"", "k0001", "k0700", "k1499"} {
				l, err := db.Range([]byte(least), []byte(most), at, limit)
				if got, want := sayRange(l), rangeOf(w, least, most, limit); got != want || err != nil {
					t.Fatalf("P11.3: at %d: Range(%q, %q, %d): %d entries, %v", at, least, most, limit, len(l), err)
				}
			}
		}
	}
}

// TestAgain: keys that are written, deleted and written again, in one batch and in many, on both sides of a Flush and of a Compact.
func TestAgain(t *testing.T) {
	ops := []api.Op{set("a", "1"), del("a"), set("a", "2"), set("b", "1"), del("b"), set("a", "3"), del("a"), set("b", "2"), del("none")}
	for split := range 1 << (len(ops) - 1) { // where a batch ends
		for mode := range 4 {
			db, m := opened(t, newDisk(t, 1<<20), options()), newModel()
			var batch []api.Op
			for i, op := range ops {
				if batch = append(batch, op); i < len(ops)-1 && split>>i&1 == 0 {
					continue
				}
				if err := db.Write(batch); err != nil {
					t.Fatal(err)
				}
				m.write(batch)
				batch = nil
				if mode&1 > 0 {
					db.Flush()
				}
				if mode&2 > 0 {
					db.Compact(0)
				}
				if got, want := say(db, db.Last()), m.sayWorld(m.last()); got != want {
					t.Fatalf("P11.3: split %x, mode %d: %s, not %s", split, mode, got, want)
				}
				if v, ok, _ := db.Get([]byte("a")); ok != (m.world(m.last())["a"] != "") || string(v) != m.world(m.last())["a"] {
					t.Fatalf("P11.3: split %x, mode %d: Get: %q", split, mode, v)
				}
			}
		}
	}
}

// TestHandedIn: that what is handed in stays as it is, and may be changed behind the call; that answers may be changed, their spare room too.
func TestHandedIn(t *testing.T) {
	roomy := func(s string) []byte { return append([]byte(s), "spare room"...)[:len(s)] }
	whole := func(b []byte) string { return string(b[:cap(b)]) }
	spoil := func(b []byte) {
		for i := range b[:cap(b)] {
			b[:cap(b)][i] ^= 0x5A
		}
	}
	o := options()
	o.Heights = append(o.Heights, 7, 8, 9)[:4]
	d := newDisk(t, 1<<20)
	db := opened(t, d, o)
	if fmt.Sprint(o.Heights[:7]) != "[1 2 1 3 7 8 9]" {
		t.Errorf("Heights: %v", o.Heights[:7])
	}
	for i := range o.Heights[:7] {
		o.Heights[:7][i] = 12
	}
	batch := append(make([]api.Op, 0, 5), api.Op{Key: roomy("a"), Value: roomy("1")}, api.Op{Key: roomy("b"), Value: roomy("2")}, api.Op{Key: roomy("c"), Value: roomy("")})
	before := fmt.Sprint(batch[:5])
	if err := db.Write(batch); err != nil {
		t.Fatal(err)
	}
	if after := fmt.Sprint(batch[:5]); after != before || whole(batch[0].Key)[:11] != "aspare room" {
		t.Errorf("the batch: %s", after)
	}
	for i := range batch {
		spoil(batch[i].Key)
		spoil(batch[i].Value)
	}
	batch[1] = api.Op{}
	const want = `"a"="1" "b"="2" "c"="" `
	for range 3 {
		least, most, key := roomy("a"), roomy("z"), roomy("a")
		for range 2 {
			l, err := db.Range(least, most, 3, 10)
			v, ok, err2 := db.GetAt(key, 3)
			u, _, _ := db.Get(key)
			if sayRange(l) != want || err != nil || string(v) != "1" || !ok || err2 != nil || !bytes.Equal(u, v) {
				t.Errorf("an answer was touched: %v, %v, %q, %v", l, err, v, err2)
			}
			spoil(v)
			spoil(u)
			for i, x := range l[:cap(l)] {
				spoil(x.Key)
				spoil(x.Value)
				l[:cap(l)][i] = api.KV{}
			}
		}
		if whole(least)[:11] != "aspare room" || whole(most)[:11] != "zspare room" || whole(key)[:11] != "aspare room" {
			t.Error("what was handed in was changed")
		}
		spoil(least)
		spoil(most)
		spoil(key)
		spoilVersion(db)
		if err := db.Flush(); err != nil {
			t.Fatal(err)
		}
		spoilVersion(db)
		if _, err := db.Compact(0); err != nil {
			t.Fatal(err)
		}
	}
	if again := opened(t, d, options()); say(again, 3) != want {
		t.Errorf("P11.7: %s", say(again, 3))
	}
}

// spoilVersion changes all that Version tells.
func spoilVersion(db *lsm.DB) {
	v := db.Version()
	for level, files := range v.Levels {
		for i, f := range files {
			for _, k := range [][]byte{f.Least, f.Most} {
				for j := range k[:cap(k)] {
					k[:cap(k)][j] = 0xEE
				}
			}
			v.Levels[level][i] = api.File{Number: -1}
		}
	}
}

// TestDeadIsCopied: that nobody who is told an error can change what the store tells of it.
func TestDeadIsCopied(t *testing.T) {
	d := newDisk(t, 1<<20)
	db := opened(t, d, options())
	d.Fail(1)
	errs := []error{db.Write([]api.Op{set("a", "1")}), db.Dead(), db.Dead()}
	want := db.Dead().Error()
	for _, err := range errs {
		for f, ok := err.(*api.Fault); ok; f, ok = f.Err.(*api.Fault) {
			f.Op = "spoilt"
		}
		f := err.(*api.Fault)
		f.Err = api.ErrLsmBatch
		if got := db.Dead(); got.Error() != want || !is(got, api.ErrDiskIO) {
			t.Errorf("P11.5: %v", got)
		}
	}
}
