package rawdb_test

import (
	"fmt"
	"maps"
	"math/bits"
	"math/rand"
	"slices"
	"strings"
	"testing"

	"moraine/api"
	"moraine/lsm"
	"moraine/rawdb"
)

// sayRoots: what Roots tells, or its error.
func sayRoots(l []api.Numbered, err error) string {
	if err != nil {
		return fmt.Sprint("error ", int(api.Of(err)), len(l))
	}
	s := ""
	for _, x := range l {
		s += fmt.Sprintf("%d=%x ", x.N, x.Root)
	}
	return s
}

func sayModelRoots(m map[uint64]api.Hash) string {
	s := ""
	for _, n := range slices.Sorted(maps.Keys(m)) {
		s += fmt.Sprintf("%d=%x ", n, m[n])
	}
	return s
}

// putRaw writes a record as it is.
func putRaw(t *testing.T, db *lsm.DB, key, value []byte) {
	t.Helper()
	if err := db.Write([]api.Op{{Key: key, Value: value}}); err != nil {
		t.Fatal(err)
	}
}

// TestRoots: put in any order, put again, dropped, dropped where there is none.
func TestRoots(t *testing.T) {
	t.Parallel()
	d := newDisk(t, 1<<20)
	db := opened(t, d, 1).db
	if l, err := rawdb.Roots(db); len(l) != 0 || err != nil {
		t.Errorf("P13.3: of none: %v, %v", l, err)
	}
	m := map[uint64]api.Hash{}
	for i, n := range []uint64{300, greatest, 0, 255, 256, 1 << 63, 1, 255, 0} {
		m[n] = api.Hash{byte(i), 31: byte(n)}
		last := db.Last()
		if err := rawdb.PutRoot(db, n, m[n]); err != nil || db.Last() != last+1 {
			t.Fatalf("P13.3: PutRoot(%d): %v, %d", n, err, db.Last())
		}
		if got := sayRoots(rawdb.Roots(db)); got != sayModelRoots(m) {
			t.Errorf("P13.3: %s, not %s", got, sayModelRoots(m))
		}
		root := m[n]
		if b, ok, err := db.Get(rawdb.RootKey(n)); string(b) != string(root[:]) || !ok || err != nil {
			t.Errorf("P13.3: record %d: %x, %v, %v", n, b, ok, err)
		}
	}
	for _, n := range []uint64{255, 2, 255, greatest, 1 << 62, 0} {
		delete(m, n)
		if err := rawdb.DropRoot(db, n); err != nil {
			t.Fatalf("P13.3: DropRoot(%d): %v", n, err)
		}
		if got := sayRoots(rawdb.Roots(db)); got != sayModelRoots(m) {
			t.Errorf("P13.3: %s, not %s", got, sayModelRoots(m))
		}
	}
	d.Restart(api.Crash{})
	if got := sayRoots(rawdb.Roots(opened(t, d, 1).db)); got != sayModelRoots(m) {
		t.Errorf("P13.3: behind a Restart: %s, not %s", got, sayModelRoots(m))
	}
}

// TestRootsForm: records that no PutRoot writes are told, wherever they stand; what isn't under a root's key isn't looked at.
func TestRootsForm(t *testing.T) {
	t.Parallel()
	for _, n := range []uint64{0, 5, greatest} {
		for _, size := range []int{0, 1, 31, 33, 64, api.MaxValue} {
			db := opened(t, newDisk(t, 1<<20), 1).db
			for i := range uint64(10) {
				if err := rawdb.PutRoot(db, i, api.Hash{1}); err != nil {
					t.Fatal(err)
				}
			}
			putRaw(t, db, rawdb.RootKey(n), make([]byte, size))
			if l, err := rawdb.Roots(db); len(l) != 0 || !is(err, api.ErrRawForm) {
				t.Errorf("P13.3: record %d of %d bytes: %v, %v", n, size, l, err)
			}
			if err := rawdb.DropRoot(db, n); err != nil {
				t.Fatal(err)
			}
			if _, err := rawdb.Roots(db); err != nil {
				t.Errorf("P13.3: record %d is gone: %v", n, err)
			}
		}
	}
	db := opened(t, newDisk(t, 1<<20), 1).db
	root := api.Hash{31: 9}
	if err := rawdb.PutRoot(db, 7, root); err != nil {
		t.Fatal(err)
	}
	for _, key := range []string{"q", "r", "s", "", "r\x00", "r\x00\x00\x00\x00\x00\x00\x00", "r\xff", string(rawdb.RootKey(0)) + "\x00", string(rawdb.RootKey(7)) + "x", string(rawdb.RootKey(greatest)) + "\xff", string(rawdb.BlockKey(7)), string(rawdb.NodeKey(root))} {
		putRaw(t, db, []byte(key), []byte("no root"))
	}
	if got := sayRoots(rawdb.Roots(db)); got != sayModelRoots(map[uint64]api.Hash{7: root}) {
		t.Errorf("P13.3: %s", got)
	}
}

// TestRootsPages: more roots than are asked for at once, by pages of each size, with others' keys between them.
func TestRootsPages(t *testing.T) {
	t.Parallel()
	r := rand.New(rand.NewSource(3))
	for count := range 12 {
		db := opened(t, newDisk(t, 1<<20), 1).db
		m := map[uint64]api.Hash{}
		for range count {
			n := []uint64{uint64(r.Intn(20)), r.Uint64(), greatest}[r.Intn(3)]
			m[n] = api.Hash{byte(r.Intn(256))}
			if err := rawdb.PutRoot(db, n, m[n]); err != nil {
				t.Fatal(err)
			}
			if r.Intn(3) == 0 {
				putRaw(t, db, append(rawdb.RootKey(n), 0), nil)
			}
		}
		for size := 1; size < 14; size++ {
			if got := sayRoots(rawdb.RootsBy(db, size)); got != sayModelRoots(m) {
				t.Fatalf("P13.3: pages of %d: %s, not %s", size, got, sayModelRoots(m))
			}
		}
		// What is wrong is told on each page.
		for n := range m {
			putRaw(t, db, rawdb.RootKey(n), []byte(strings.Repeat("x", 31)))
			for size := 1; size < 14; size++ {
				if l, err := rawdb.RootsBy(db, size); len(l) != 0 || !is(err, api.ErrRawForm) {
					t.Fatalf("P13.3: pages of %d: %v, %v", size, l, err)
				}
			}
			break
		}
	}
}

// TestManyRoots: as many as one page has, and around that, and more than the store tells at once.
func TestManyRoots(t *testing.T) {
	t.Parallel()
	o := options()
	o.Plan = api.Plan{Block: 4096, Restart: 16, Bits: 10, Table: 1 << 20}
	o.Heights = nil
	for i := range 64 { // as many as halving gives, so that the store finds its way soon
		o.Heights = append(o.Heights, 1+bits.TrailingZeros(uint(i+1)))
	}
	for _, count := range []int{rawdb.PageRecords - 1, rawdb.PageRecords, rawdb.PageRecords + 1, 3 * rawdb.PageRecords, api.MaxBatch + 1} {
		db, err := lsm.Open(newDisk(t, 1<<24), o)
		if err != nil {
			t.Fatal(err)
		}
		var batch []api.Op
		for n := range uint64(count) {
			root := api.Hash{byte(n), byte(n >> 8), byte(n >> 16)}
			batch = append(batch, api.Op{Key: rawdb.RootKey(n), Value: root[:]})
		}
		for part := range slices.Chunk(batch, 30000) {
			if err := db.Write(part); err != nil {
				t.Fatal(err)
			}
		}
		for range 2 {
			l, err := rawdb.Roots(db)
			if len(l) != count || err != nil {
				t.Fatalf("P13.3: %d, %v, not %d", len(l), err, count)
			}
			for i, x := range l {
				if n := uint64(i); x.N != n || x.Root != (api.Hash{byte(n), byte(n >> 8), byte(n >> 16)}) {
					t.Fatalf("P13.3: place %d: %v", i, x)
				}
			}
			if err := db.Flush(); err != nil {
				t.Fatal(err)
			}
		}
	}
}

// TestRootsOfStores: the store's errors, when it is closed, and when it is dead.
func TestRootsOfStores(t *testing.T) {
	t.Parallel()
	d := newDisk(t, 1<<20)
	db := opened(t, d, 1).db
	if err := rawdb.PutRoot(db, 4, api.Hash{4}); err != nil {
		t.Fatal(err)
	}
	d.Fail(1)
	if err := rawdb.PutRoot(db, 5, api.Hash{5}); !is(err, api.ErrDiskIO) {
		t.Errorf("P13.3: %v", err)
	}
	for _, err := range []error{rawdb.PutRoot(db, 5, api.Hash{5}), rawdb.DropRoot(db, 4), rawdb.DropRoot(db, 5)} {
		if !is(err, api.ErrLsmReadOnly) {
			t.Errorf("P13.3: of a dead store: %v", err)
		}
	}
	if got := sayRoots(rawdb.Roots(db)); got != sayModelRoots(map[uint64]api.Hash{4: {4}}) {
		t.Errorf("P13.3: of a dead store: %s", got)
	}
	if err := db.Close(); err != nil {
		t.Fatal(err)
	}
	l, err := rawdb.Roots(db)
	if len(l) != 0 || !is(err, api.ErrLsmClosed) {
		t.Errorf("P13.3: of a closed store: %v, %v", l, err)
	}
	for _, err := range []error{rawdb.PutRoot(db, 5, api.Hash{5}), rawdb.DropRoot(db, 4)} {
		if !is(err, api.ErrLsmClosed) {
			t.Errorf("P13.3: of a closed store: %v", err)
		}
	}
	// One that finds the disk full.
	small := opened(t, newDisk(t, 20), 1).db
	if err := rawdb.PutRoot(small, 1, api.Hash{}); !is(err, api.ErrDiskFull) {
		t.Errorf("P13.3: %v", err)
	}
}

// TestRootsAreSure: power falls at each changing call: what was acknowledged stays, and what was in flight is there whole or not at all.
func TestRootsAreSure(t *testing.T) {
	t.Parallel()
	r := rand.New(rand.NewSource(5))
	for call, fell := 0, true; fell; call++ {
		for kind := range crashKinds {
			d := newDisk(t, 1<<20)
			db := opened(t, d, 1).db
			d.Halt(call)
			m, next := map[uint64]api.Hash{}, map[uint64]api.Hash{}
			var err error
			for i := 0; i < 12 && err == nil; i++ {
				m = maps.Clone(next)
				n := uint64(i * 5 % 4)
				if i%3 == 2 {
					delete(next, n)
					err = rawdb.DropRoot(db, n)
				} else {
					next[n] = api.Hash{byte(i)}
					err = rawdb.PutRoot(db, n, next[n])
				}
			}
			if fell = err != nil; !fell {
				break
			}
			if got := sayRoots(rawdb.Roots(db)); !is(err, api.ErrDiskDown) || got != sayModelRoots(m) {
				t.Fatalf("P13.3: %v, %s, not %s", err, got, sayModelRoots(m))
			}
			d.Restart(crash(r, kind))
			got := sayRoots(rawdb.Roots(opened(t, d, 1).db))
			if got != sayModelRoots(m) && got != sayModelRoots(next) {
				t.Fatalf("P13.3: call %d, kind %d: %s, not %s or %s", call, kind, got, sayModelRoots(m), sayModelRoots(next))
			}
		}
	}
}
