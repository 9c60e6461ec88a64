package lsm_test

import (
	"errors"
	"fmt"
	"maps"
	"math/rand"
	"slices"
	"strings"
	"testing"

	"moraine/api"
	"moraine/disk"
	"moraine/lsm"
	"moraine/manifest"
)

// options: small sizes, so that there is much to flush and to merge.
func options() api.Options {
	return api.Options{
		Plan:    api.Plan{Block: 64, Restart: 3, Bits: 8, Table: 150},
		Sizes:   api.Sizes{Tables0: 2, Bytes1: 700, Factor: 2},
		Heights: []int{1, 2, 1, 3},
	}
}

// drawnOptions: whatever may be, mostly small.
func drawnOptions(r *rand.Rand) api.Options {
	o := api.Options{
		Plan:  api.Plan{Block: 16 << r.Intn(6), Restart: 1 + r.Intn(64), Bits: 1 + r.Intn(64), Table: 16 << r.Intn(8)},
		Sizes: api.Sizes{Tables0: 1 + r.Intn(4), Bytes1: 1 << r.Intn(12), Factor: 2 + r.Intn(15)},
	}
	for range r.Intn(65) {
		o.Heights = append(o.Heights, r.Intn(20)-3)
	}
	return o
}

func set(k, v string) api.Op { return api.Op{Key: []byte(k), Value: []byte(v)} }

func del(k string) api.Op { return api.Op{Delete: true, Key: []byte(k)} }

// seeded runs a test by several seeds, side by side.
func seeded(t *testing.T, count int, test func(t *testing.T, r *rand.Rand)) {
	for seed := range count {
		t.Run(fmt.Sprint(seed), func(t *testing.T) {
			t.Parallel()
			test(t, rand.New(rand.NewSource(int64(seed))))
		})
	}
}

func newDisk(t *testing.T, capacity int) *disk.Disk {
	t.Helper()
	d, e := disk.New(capacity)
	if e != api.OK {
		t.Fatal(e)
	}
	return d
}

func opened(t *testing.T, d *disk.Disk, o api.Options) *lsm.DB {
	t.Helper()
	db, err := lsm.Open(d, o)
	if err != nil {
		t.Fatalf("P11.1: %v", err)
	}
	return db
}

// is: whether an error is that number, wrapped as chapter 11 says: faults, one in the other, and the number at their end.
func is(err error, want api.Errno) bool {
	if want == api.OK {
		return err == nil
	}
	var f *api.Fault
	var n api.Errno
	if !errors.As(err, &f) || error(f) != err || !errors.Is(err, want) || !errors.As(err, &n) || n != want || api.Of(err) != want {
		return false
	}
	for {
		in, ok := err.(*api.Fault)
		if !ok {
			break
		}
		err = in.Err
	}
	return err == error(want)
}

// model: a store by the chapter's words: the row of operations, and how often each moment is held.
type model struct {
	ops  []api.Op
	held map[uint64]int
}

func newModel() *model { return &model{held: map[uint64]int{}} }

func (m *model) last() uint64 { return uint64(len(m.ops)) }

func (m *model) write(batch []api.Op) {
	for _, op := range batch {
		m.ops = append(m.ops, api.Op{Delete: op.Delete, Key: slices.Clone(op.Key), Value: slices.Clone(op.Value)})
	}
}

// world: keys and values that the first n operations make.
func (m *model) world(n uint64) map[string]string {
	w := map[string]string{}
	for _, op := range m.ops[:n] {
		if op.Delete {
			delete(w, string(op.Key))
		} else {
			w[string(op.Key)] = string(op.Value)
		}
	}
	return w
}

// rangeOf: what Range tells of a world.
func rangeOf(w map[string]string, least, most string, limit int) string {
	s, n := "", 0
	for _, k := range slices.Sorted(maps.Keys(w)) {
		if k >= least && (most == "" || k <= most) && n < limit {
			s += fmt.Sprintf("%q=%q ", k, w[k])
			n++
		}
	}
	return s
}

func sayRange(l []api.KV) string {
	s := ""
	for _, x := range l {
		s += fmt.Sprintf("%q=%q ", x.Key, x.Value)
	}
	return s
}

// say: the whole world of a store at a moment, or its error.
func say(db *lsm.DB, at uint64) string {
	l, err := db.Range(nil, nil, at, api.MaxBatch)
	if err != nil {
		return fmt.Sprint("error ", int(api.Of(err)))
	}
	return sayRange(l)
}

// sayWorld: the same of the model.
func (m *model) sayWorld(at uint64) string { return rangeOf(m.world(at), "", "", api.MaxBatch) }

// keys: those that drawn batches write, the edges of keys among them.
func keys() []string {
	l := []string{"", "\x00", "\x00\x00", "a", "a\x00", "ab", "b", "\xff", "\xff\xff", strings.Repeat("k", api.MaxKey), strings.Repeat("k", api.MaxKey-1) + "\x00"}
	for i := range 14 {
		l = append(l, fmt.Sprintf("key%02d", i))
	}
	return l
}

func drawnKey(r *rand.Rand) string {
	l := keys()
	return l[r.Intn(len(l))]
}

func drawnBatch(r *rand.Rand, most int) []api.Op {
	var l []api.Op
	for range r.Intn(most + 1) {
		if r.Intn(3) == 0 {
			l = append(l, del(drawnKey(r)))
		} else {
			l = append(l, set(drawnKey(r), strings.Repeat(string(rune('a'+r.Intn(26))), r.Intn(30))))
		}
	}
	return l
}

// agree: that what a store tells is what the model tells: of the last moment, of each held one, of others.
func agree(t *testing.T, r *rand.Rand, db *lsm.DB, m *model) {
	t.Helper()
	if db.Last() != m.last() {
		t.Fatalf("P11.1: Last %d, not %d", db.Last(), m.last())
	}
	if e := manifest.Check(db.Version()); e != api.OK {
		t.Fatalf("P11.4: Version: %d", e)
	}
	for at := range m.last() + 3 {
		if at != m.last() && m.held[at] == 0 {
			if r.Intn(8) == 0 {
				refusesMoment(t, db, at)
			}
			continue
		}
		agreeAt(t, r, db, at, m.world(at))
	}
}

func refusesMoment(t *testing.T, db *lsm.DB, at uint64) {
	t.Helper()
	v, ok, err := db.GetAt([]byte("a"), at)
	l, err2 := db.Range(nil, nil, at, 0)
	if len(v) != 0 || ok || len(l) != 0 || !is(err, api.ErrLsmSeq) || !is(err2, api.ErrLsmSeq) || !is(db.Release(at), api.ErrLsmSeq) {
		t.Fatalf("P11.3: moment %d: %v, %v", at, err, err2)
	}
}

func agreeAt(t *testing.T, r *rand.Rand, db *lsm.DB, at uint64, w map[string]string) {
	t.Helper()
	if got, want := say(db, at), rangeOf(w, "", "", api.MaxBatch); got != want {
		t.Fatalf("P11.3: world at %d: %s; not %s", at, got, want)
	}
	for _, k := range append(keys(), "none", strings.Repeat("k", api.MaxKey+1)) {
		v, ok, err := db.GetAt([]byte(k), at)
		want, there := w[k]
		if string(v) != want || ok != there || err != nil {
			t.Fatalf("P11.3: GetAt(%q, %d): %q, %v, %v; not %q, %v", k, at, v, ok, err, want, there)
		}
		if at != db.Last() {
			continue
		}
		if v, ok, err := db.Get([]byte(k)); string(v) != want || ok != there || err != nil {
			t.Fatalf("P11.3: Get(%q): %q, %v, %v", k, v, ok, err)
		}
	}
	for range 3 {
		least, most, limit := drawnKey(r), drawnKey(r), 1+r.Intn(12)
		l, err := db.Range([]byte(least), []byte(most), at, limit)
		if got, want := sayRange(l), rangeOf(w, least, most, limit); got != want || err != nil {
			t.Fatalf("P11.3: Range(%q, %q, %d, %d): %s, %v; not %s", least, most, at, limit, got, err, want)
		}
	}
}

// act does something that is drawn, to a store and its model.
func act(t *testing.T, r *rand.Rand, db *lsm.DB, m *model) {
	t.Helper()
	var err error
	switch r.Intn(10) {
	case 0, 1, 2, 3:
		batch := drawnBatch(r, 6)
		if err = db.Write(batch); err == nil {
			m.write(batch)
		}
	case 4:
		var at uint64
		if at, err = db.Hold(); at != m.last() {
			t.Fatalf("P11.3: Hold: %d", at)
		}
		m.held[at]++
	case 5:
		for at := range m.held {
			if m.held[at]--; m.held[at] == 0 {
				delete(m.held, at)
			}
			err = db.Release(at)
			break
		}
	case 6:
		err = db.Flush()
	case 7, 8:
		_, err = db.Compact(r.Intn(api.MaxLevels - 1))
	default:
		_, err = db.Settle(r.Intn(4))
	}
	if err != nil {
		t.Fatal(err)
	}
}
