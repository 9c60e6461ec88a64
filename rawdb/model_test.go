package rawdb_test

import (
	"errors"
	"fmt"
	"maps"
	"math/rand"
	"slices"
	"strings"
	"testing"

	"moraine/api"
	"moraine/disk"
	"moraine/freezer"
	"moraine/lsm"
	"moraine/rawdb"
)

const greatest = 1<<64 - 1 // of the numbers of roots and blocks

// seeded runs a test by several seeds, side by side.
func seeded(t *testing.T, count int, test func(t *testing.T, r *rand.Rand)) {
	for seed := range count {
		t.Run(fmt.Sprint(seed), func(t *testing.T) {
			t.Parallel()
			test(t, rand.New(rand.NewSource(int64(seed))))
		})
	}
}

func newDisk(t *testing.T, capacity int) *disk.Disk {
	t.Helper()
	d, e := disk.New(capacity)
	if e != api.OK {
		t.Fatal(e)
	}
	return d
}

// options: small sizes, so that there is much to flush and to merge.
func options() api.Options {
	return api.Options{
		Plan:    api.Plan{Block: 64, Restart: 3, Bits: 8, Table: 150},
		Sizes:   api.Sizes{Tables0: 2, Bytes1: 700, Factor: 2},
		Heights: []int{1, 2, 1, 3},
	}
}

func someTables(count int) []string {
	return []string{"blocks", "a", "b", "c", "d", "e", "f", "g"}[:count]
}

// pair: a store and a freezer on one disk, as they are handed in.
type pair struct {
	db *lsm.DB
	f  *freezer.Freezer
}

func open(d *disk.Disk, tables int) (pair, error) {
	db, err := lsm.Open(d, options())
	if err != nil {
		return pair{}, err
	}
	f, err := freezer.Open(d, someTables(tables))
	return pair{db, f}, err
}

func opened(t *testing.T, d *disk.Disk, tables int) pair {
	t.Helper()
	p, err := open(d, tables)
	if err != nil {
		t.Fatal(err)
	}
	return p
}

func (p pair) put(n uint64, b string) error { return rawdb.PutBlock(p.db, p.f, n, []byte(b)) }

func (p pair) block(n uint64) (string, bool, error) {
	b, there, err := rawdb.Block(p.db, p.f, n)
	return string(b), there, err
}

func (p pair) move(before uint64) (int, error) { return rawdb.Move(p.db, p.f, before) }

// is: whether an error is that number, wrapped as chapter 11 says: faults, one in the other, and the number at their end.
func is(err error, want api.Errno) bool {
	if want == api.OK {
		return err == nil
	}
	var f *api.Fault
	var n api.Errno
	if !errors.As(err, &f) || error(f) != err || !errors.Is(err, want) || !errors.As(err, &n) || n != want || api.Of(err) != want {
		return false
	}
	for {
		in, ok := err.(*api.Fault)
		if !ok {
			break
		}
		err = in.Err
	}
	return err == error(want)
}

// model: blocks by the chapter's words: what the store has, by numbers, and what the freezer has.
type model struct {
	store      map[uint64]string
	old        map[uint64]string
	tail, head uint64
	tables     int
	serial     int // tells blocks apart, also those of one number
}

func newModel(tables int) *model {
	return &model{store: map[uint64]string{}, old: map[uint64]string{}, tables: tables}
}

func (m *model) clone() *model {
	other := *m
	other.store, other.old = maps.Clone(m.store), maps.Clone(m.old)
	return &other
}

// putError: what PutBlock answers of a block that isn't too long.
func (m *model) putError(n uint64) api.Errno {
	_, there := m.store[n]
	_, before := m.store[n-1]
	if n < m.head || there || n != m.head && !before {
		return api.ErrRawOrder
	}
	return api.OK
}

func (m *model) block(n uint64) (string, bool) {
	if n < m.tail {
		return "", false
	}
	if n < m.head {
		return m.old[n], true
	}
	b, there := m.store[n]
	return b, there
}

// toMove: how many blocks Move takes.
func (m *model) toMove(before uint64) int {
	count := 0
	for n := m.head; n < before; n++ {
		if _, there := m.store[n]; !there {
			break
		}
		count++
	}
	return count
}

// moved: so many blocks are in the freezer, too.
func (m *model) moved(count int) {
	for range count {
		m.old[m.head] = m.store[m.head]
		m.head++
	}
}

// gone: the store has so many blocks from a number on no more.
func (m *model) gone(from uint64, count int) {
	for i := range count {
		delete(m.store, from+uint64(i))
	}
}

func (m *model) cut(tail, head uint64) {
	m.tail, m.head = tail, head
	maps.DeleteFunc(m.old, func(n uint64, _ string) bool { return n < tail || n >= head })
}

// fresh: bytes that no block had.
func (m *model) fresh(r *rand.Rand) string {
	m.serial++
	return fmt.Sprint("v", m.serial, strings.Repeat("x", []int{0, 1, 10, 60, 300}[r.Intn(5)]))
}

// near: numbers around those that there are, and far ones.
func (m *model) near() []uint64 {
	l := []uint64{greatest, greatest - 1, 1 << 63, 1<<63 - 1, 1 << 32, 256, 255}
	for n := range m.head + uint64(len(m.store)) + 3 {
		l = append(l, n)
	}
	return l
}

// agree: that Block tells what the model does, and that store and freezer have what they must.
func agree(t *testing.T, p pair, m *model) {
	t.Helper()
	tellsBlocks(t, p, m)
	if p.f.Tail() != int(m.tail) || p.f.Head() != int(m.head) {
		t.Fatalf("P13.4: the freezer has %d to %d, not %d to %d", p.f.Tail(), p.f.Head(), m.tail, m.head)
	}
	for n := m.tail; n < m.head; n++ {
		for i := range m.tables {
			want := m.old[n]
			if i > 0 {
				want = ""
			}
			if b, err := p.f.Get(i, int(n)); string(b) != want || err != nil {
				t.Fatalf("P13.4: item %d, table %d: %q, %v, not %q", n, i, b, err, want)
			}
		}
	}
	if got := sayStore(t, p.db); got != m.sayStore() {
		t.Fatalf("P13.4: the store has %s, not %s", got, m.sayStore())
	}
}

// tellsBlocks: that Block tells what the model does.
func tellsBlocks(t *testing.T, p pair, m *model) {
	t.Helper()
	for _, n := range m.near() {
		want, there := m.block(n)
		b, ok, err := p.block(n)
		if b != want || ok != there || err != nil {
			t.Fatalf("P13.4, P13.5: Block(%d): %q, %v, %v, not %q, %v", n, b, ok, err, want, there)
		}
	}
}

// sayStore: all that a store has.
func sayStore(t *testing.T, db *lsm.DB) string {
	t.Helper()
	l, err := db.Range(nil, nil, db.Last(), api.MaxBatch)
	if err != nil {
		t.Fatal(err)
	}
	s := ""
	for _, x := range l {
		s += fmt.Sprintf("%x=%s ", x.Key, x.Value)
	}
	return s
}

func (m *model) sayStore() string {
	s := ""
	for _, n := range slices.Sorted(maps.Keys(m.store)) {
		s += fmt.Sprintf("62%016x=%s ", n, m.store[n])
	}
	return s
}

// filled: a pair with blocks 0 to count - 1, of which those below ancient are.
func filled(t *testing.T, d *disk.Disk, tables, count, ancient int) (pair, *model) {
	t.Helper()
	p, m := opened(t, d, tables), newModel(tables)
	for n := range uint64(count) {
		m.store[n] = fmt.Sprint("v", n)
		if err := p.put(n, m.store[n]); err != nil {
			t.Fatal(err)
		}
	}
	if n, err := p.move(uint64(ancient)); n != ancient || err != nil {
		t.Fatalf("P13.4: Move: %d, %v", n, err)
	}
	m.moved(ancient)
	m.gone(0, ancient)
	return p, m
}

// drawnCrash: some of what was pending survives.
func drawnCrash(r *rand.Rand) api.Crash {
	c := api.Crash{Names: r.Intn(6)}
	most := []int{2, 20, 200, 2000}[r.Intn(4)]
	for range 400 {
		c.Bytes = append(c.Bytes, r.Intn(most))
	}
	return c
}

const crashKinds = 7

// crash: by kinds, nothing that was pending survives, all of it, all bytes, all names, some of it.
func crash(r *rand.Rand, kind int) api.Crash {
	all := api.Crash{Names: 1 << 20, Bytes: slices.Repeat([]int{1 << 26}, 4000)}
	switch kind {
	case 0:
		return api.Crash{}
	case 1:
		return all
	case 2:
		return api.Crash{Bytes: all.Bytes}
	case 3:
		return api.Crash{Names: all.Names}
	}
	return drawnCrash(r)
}
