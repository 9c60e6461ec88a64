package rawdb_test

import (
	"bytes"
	"errors"
	"strings"
	"testing"

	"moraine/api"
	"moraine/rawdb"
)

// scribble changes a list, and its spare room.
func scribble(b []byte) {
	b = b[:cap(b)]
	for i := range b {
		b[i] = '?'
	}
}

// TestKeysMayBeChanged: a key that was told, and its spare room.
func TestKeysMayBeChanged(t *testing.T) {
	first, second := someKeys(t), someKeys(t)
	for _, x := range first {
		scribble(x.key)
	}
	for _, x := range append(second, someKeys(t)...) {
		if string(x.key) != spelt(x.want) {
			t.Fatalf("rule 3: %x of %v", x.key, x.want)
		}
	}
}

// TestParsedMayBeChanged: a key that was parsed, which stays as it is, its spare room too.
func TestParsedMayBeChanged(t *testing.T) {
	for _, x := range someKeys(t) {
		room := append(bytes.Clone(x.key), strings.Repeat("-", 70)...)
		whole := bytes.Clone(room)
		key := room[:len(x.key)]
		k, e := rawdb.Parse(key)
		if !bytes.Equal(room, whole) {
			t.Fatalf("rule 3: Parse changed %x", whole)
		}
		scribble(room)
		if k != x.want || e != api.OK {
			t.Fatalf("rule 3: %v, %d, not %v", k, e, x.want)
		}
	}
}

// TestBlocksMayBeChanged: what is handed in, and what is told, of blocks in the store and of ancient ones.
func TestBlocksMayBeChanged(t *testing.T) {
	t.Parallel()
	p, m := opened(t, newDisk(t, 1<<20), 2), newModel(2)
	for n := range uint64(6) {
		room := []byte("block and what stands behind it")
		if err := rawdb.PutBlock(p.db, p.f, n, room[:5]); err != nil {
			t.Fatal(err)
		}
		if string(room) != "block and what stands behind it" {
			t.Fatalf("rule 3: %q", room)
		}
		scribble(room)
		m.store[n] = "block"
	}
	for step := range 3 {
		for range 2 {
			for n := range uint64(6) {
				b, there, err := rawdb.Block(p.db, p.f, n)
				if string(b) != "block" || !there || err != nil {
					t.Fatalf("rule 3: Block(%d): %q, %v, %v", n, b, there, err)
				}
				scribble(b)
			}
		}
		agree(t, p, m)
		if step == 0 {
			if _, err := p.move(3); err != nil {
				t.Fatal(err)
			}
			m.moved(3)
			m.gone(0, 3)
		} else if err := p.db.Flush(); err != nil {
			t.Fatal(err)
		}
	}
}

// TestRootsMayBeChanged: what Roots told.
func TestRootsMayBeChanged(t *testing.T) {
	t.Parallel()
	db := opened(t, newDisk(t, 1<<20), 1).db
	want := map[uint64]api.Hash{}
	for n := range uint64(5) {
		want[n] = api.Hash{byte(n)}
		if err := rawdb.PutRoot(db, n, want[n]); err != nil {
			t.Fatal(err)
		}
	}
	for range 3 {
		l, err := rawdb.Roots(db)
		if got := sayRoots(l, err); got != sayModelRoots(want) {
			t.Fatalf("rule 3: %s", got)
		}
		l = l[:cap(l)]
		for i := range l {
			l[i] = api.Numbered{N: 99, Root: api.Hash{99}}
		}
	}
}

// TestErrorsMayBeChanged: faults that were told, in all their depth.
func TestErrorsMayBeChanged(t *testing.T) {
	t.Parallel()
	d := newDisk(t, 1<<20)
	p, _ := filled(t, d, 2, 4, 2)
	d.Fail(1)
	p.put(4, "x")
	for range 2 {
		for _, x := range []struct {
			err  error
			want api.Errno
		}{
			{p.put(4, "x"), api.ErrLsmReadOnly},
			{p.put(0, "x"), api.ErrRawOrder},
			{rawdb.PutRoot(p.db, 1, api.Hash{}), api.ErrLsmReadOnly},
			{rawdb.DropRoot(p.db, 1), api.ErrLsmReadOnly},
			{p.db.Dead(), api.ErrDiskIO},
		} {
			if !is(x.err, x.want) {
				t.Errorf("rule 3: %v, not %d", x.err, x.want)
			}
			var f *api.Fault
			for err := x.err; errors.As(err, &f); {
				err = f.Err
				f.Op, f.Err = "?", api.ErrTrieNode
			}
		}
	}
}

// TestPairsApart: that two stores and freezers don't touch one another.
func TestPairsApart(t *testing.T) {
	t.Parallel()
	a, m := filled(t, newDisk(t, 1<<20), 2, 5, 2)
	b, other := filled(t, newDisk(t, 1<<20), 1, 3, 3)
	for n := range uint64(3) {
		if err := b.put(3+n, "other"); err != nil {
			t.Fatal(err)
		}
		other.store[3+n] = "other"
	}
	agree(t, a, m)
	agree(t, b, other)
}
