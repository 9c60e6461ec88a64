package triedb_test

import (
	"bytes"
	"fmt"
	"math/rand"
	"slices"
	"testing"

	"moraine/api"
	"moraine/trie"
)

// unchanged: that a call that failed changed nothing: what is dirty, and what can be read; roots are held as before, which the last Drops tell.
func (b *bench) unchanged(t *testing.T) {
	t.Helper()
	b.agreesDirty(t)
	for h, want := range b.m.dirty {
		if got, ok, err := b.x.Get(h); string(got) != want || !ok || err != nil {
			t.Fatalf("P15.3: Get of a dirty node: %x, %v, %v", got, ok, err)
		}
	}
}

// TestClosed: a store that is closed: its error, where it is asked for something.
func TestClosed(t *testing.T) {
	t.Parallel()
	b := newBench(t)
	root, l := made("a", "b", "c")
	other, m := made("d", "e")
	b.put(t, l[0])
	b.put(t, m...)
	b.insert(t, root, l)
	b.hasDirty(t, 3)
	if err := b.store.Close(); err != nil {
		t.Fatal(err)
	}
	further, n := made("f", "g")
	for what, err := range map[string]error{
		"Insert of new nodes": b.x.Insert(further, n), "of clean ones": b.x.Insert(other, m), "of a clean one below dirty ones": b.x.Insert(root, l),
		"Commit of a held root": b.x.Commit(root), "of a clean one": b.x.Commit(other), "of none": b.x.Commit(api.Hash{1}), "of a dirty one that isn't held": b.x.Commit(l[1].Hash),
	} {
		if !is(err, api.ErrLsmClosed) {
			t.Errorf("P15.1, P15.2: %s: %v", what, err)
		}
		b.unchanged(t)
	}
	for _, h := range []api.Hash{l[0].Hash, other, further, {}} {
		if got, ok, err := b.x.Get(h); len(got) != 0 || ok || !is(err, api.ErrLsmClosed) {
			t.Errorf("P15.3: Get: %x, %v, %v", got, ok, err)
		}
	}
	hurt := append(slices.Clone(n), api.Node{Hash: further, Bytes: n[0].Bytes})
	if err := b.x.Insert(further, hurt); !is(err, api.ErrTrieForm) {
		t.Errorf("P15.1: ErrTrieForm is told first: %v", err)
	}
	x := b.x.Trie(root)
	got := tells(x, "\x00\x01") + "," + tells(x, "\x10\x01")
	if want := fmt.Sprintf(" false %d,%sb true 0", api.ErrTrieNode, bytes.Repeat([]byte("v"), 40)); got != want {
		t.Errorf("P15.3: a trie over a closed store: %s", got)
	}
	// What needs no store goes on.
	if err := b.x.Insert(root, l[1:]); err != nil {
		t.Errorf("P15.1: nodes that are dirty: %v", err)
	}
	for i, want := range []api.Errno{api.OK, api.OK, api.ErrTriedbRoot} {
		if err := b.x.Drop(root); !is(err, want) {
			t.Errorf("P15.2: Drop %d: %v", i, err)
		}
	}
	for _, h := range []api.Hash{other, further} {
		if err := b.x.Drop(h); !is(err, api.ErrTriedbRoot) {
			t.Errorf("P15.1: an Insert that failed holds its root: %v", err)
		}
	}
	b.hasDirty(t, 0)
}

// committing: a Commit that is to be disturbed.
type committing struct {
	b        *bench
	root     api.Hash
	written  map[api.Hash]string // what it is to write
	inserted []func(b *bench)    // so that it can be done again
}

// someCommits: of a small trie, of one with storages and clean nodes, of one beside others, of one with more bytes in a store with tables.
const someCommits = 4

func newCommit(t *testing.T, kind, capacity int) *committing {
	t.Helper()
	b := benchOn(t, newDisk(t, capacity), options())
	c := &committing{b: b}
	do := func(root api.Hash, l []api.Node) {
		c.inserted = append(c.inserted, func(b *bench) { b.insert(t, root, l) })
		b.insert(t, root, l)
	}
	root, l := made("a", "b")
	switch kind {
	case 1:
		storage, m := made("s", "t", "u")
		b.put(t, m[1], l[0])
		accounts := trie.New(trie.Empty(), nil)
		for i := range byte(5) {
			if e := accounts.Put([]byte{i * 50}, record([]api.Hash{storage, root}[i%2])); e != api.OK {
				t.Fatal(e)
			}
		}
		l, root = slices.Concat(accounts.Nodes(), m, l), accounts.Root()
		do(storage, m)
	case 2:
		two, m := made("a", "x", "y")
		three, n := made("p", "q")
		do(two, m)
		do(three, n)
		b.commit(t, three)
	case 3:
		var values []string
		for i := range 16 {
			values = append(values, fmt.Sprintf("%0900d", i))
		}
		two, m := made("x", "y", "z")
		do(two, m)
		b.commit(t, two)
		if err := b.store.Flush(); err != nil {
			t.Fatal(err)
		}
		root, l = made(values...)
	}
	do(root, l)
	c.root = root
	c.written, _ = b.m.toCommit(root)
	return c
}

// failed: a Commit that answered an error: the DB and its store are as they were, and Insert, Get and Drop go on; a Commit doesn't.
func (c *committing) failed(t *testing.T, err error, want api.Errno) {
	t.Helper()
	b := c.b
	if !is(err, want) {
		t.Fatalf("P15.2: Commit: %v, not %d", err, want)
	}
	b.agrees(t)
	for range 2 {
		if err := b.x.Commit(c.root); !is(err, api.ErrLsmReadOnly) {
			t.Fatalf("P15.2: Commit again: %v", err)
		}
		b.agrees(t)
	}
	if err := b.x.Commit(api.Hash{1}); !is(err, api.ErrTriedbRoot) {
		t.Errorf("P15.2: Commit of a root that isn't there: %v", err)
	}
	more, l := made("more", "nodes")
	b.insert(t, more, l)
	if err := b.x.Commit(more); !is(err, api.ErrLsmReadOnly) {
		t.Fatalf("P15.2: Commit of others: %v", err)
	}
	b.agrees(t)
	b.drop(t, more)
	b.drained(t)
}

// again: behind a Restart, or without one, all of what the Commit was to write can be read, or none; it can be done again.
func (c *committing) again(t *testing.T) bool {
	t.Helper()
	b := c.b
	b.open(t)
	whole := false
	if sayStore(t, b.store) != sayClean(b.m.clean) {
		whole = true
		for h, code := range c.written {
			b.m.clean[h] = code
		}
	}
	b.agrees(t)
	for _, insert := range c.inserted {
		insert(b)
	}
	if got := len(b.x.Dirty()); whole && got != len(b.m.dirty) {
		t.Fatalf("P15.4: %d are dirty", got)
	}
	b.commit(t, c.root)
	b.d.Restart(api.Crash{})
	b.open(t)
	b.agrees(t)
	for h, code := range c.written {
		if got, ok, err := b.x.Get(h); string(got) != code || !ok || err != nil {
			t.Fatalf("P15.4: %x, %v, %v", got, ok, err)
		}
	}
	return whole
}

const crashKinds = 7

// crash: by kinds, nothing that was pending survives, all of it, all bytes, all names, some of it.
func crash(r *rand.Rand, kind int) api.Crash {
	all := api.Crash{Names: 1 << 20, Bytes: slices.Repeat([]int{1 << 26}, 400)}
	switch kind {
	case 0:
		return api.Crash{}
	case 1:
		return all
	case 2:
		return api.Crash{Bytes: all.Bytes}
	case 3:
		return api.Crash{Names: all.Names}
	}
	c := api.Crash{Names: r.Intn(6)}
	most := []int{20, 200, 2000}[r.Intn(3)]
	for range 400 {
		c.Bytes = append(c.Bytes, r.Intn(most))
	}
	return c
}

// TestCommitFails: each changing call of the disk fails in the midst of a Commit.
func TestCommitFails(t *testing.T) {
	t.Parallel()
	r := rand.New(rand.NewSource(1))
	for kind := range someCommits {
		calls := 0
		for failed := true; failed; calls++ {
			for behind := range crashKinds + 1 {
				c := newCommit(t, kind, 1<<22)
				c.b.d.Fail(calls + 1)
				err := c.b.x.Commit(c.root)
				if failed = err != nil; !failed {
					break
				}
				c.failed(t, err, api.ErrDiskIO)
				if behind < crashKinds {
					c.b.d.Restart(crash(r, behind))
				}
				c.again(t)
			}
		}
		if calls < 3 {
			t.Errorf("too few calls: %d", calls)
		}
	}
}

// TestCommitFull: a disk with each room that is left, up to one that is enough.
func TestCommitFull(t *testing.T) {
	t.Parallel()
	const capacity = 1 << 17
	for kind := range someCommits {
		fulls := 0
		for room, full := 0, true; full; room += 1 + room/8 {
			c := newCommit(t, kind, capacity)
			d := c.b.d
			for _, e := range []api.Errno{d.Create("mine"), d.SyncDir(), d.Append("mine", make([]byte, capacity-d.Used()-room)), d.Sync("mine")} {
				if e != api.OK {
					t.Fatal(e)
				}
			}
			err := c.b.x.Commit(c.root)
			if full = err != nil; !full {
				break
			}
			fulls++
			c.failed(t, err, api.ErrDiskFull)
			if room%2 == 0 {
				d.Restart(api.Crash{})
			}
			if e := d.Remove("mine"); e != api.OK {
				t.Fatal(e)
			}
			c.again(t)
		}
		if fulls < 10 {
			t.Errorf("too few found the disk full: %d", fulls)
		}
	}
}

// TestCommitFalls: power falls at each changing call in the midst of a Commit, and this or that survives.
func TestCommitFalls(t *testing.T) {
	t.Parallel()
	r := rand.New(rand.NewSource(2))
	for kind := range someCommits {
		calls, wholes, nones := 0, 0, 0
		for fell := true; fell; calls++ {
			for behind := range 4 * crashKinds {
				c := newCommit(t, kind, 1<<22)
				c.b.d.Halt(calls)
				err := c.b.x.Commit(c.root)
				if fell = err != nil; !fell {
					break
				}
				if !is(err, api.ErrDiskDown) {
					t.Fatalf("P15.2: %v", err)
				}
				c.b.unchanged(t)
				c.b.d.Restart(crash(r, behind%crashKinds))
				if c.again(t) {
					wholes++
				} else {
					nones++
				}
			}
		}
		if calls < 3 || wholes == 0 || nones == 0 {
			t.Errorf("%d calls, %d times whole, %d times none", calls, wholes, nones)
		}
	}
}

// TestCommitIsSure: what was acknowledged stays, whatever a Restart takes.
func TestCommitIsSure(t *testing.T) {
	t.Parallel()
	r := rand.New(rand.NewSource(3))
	for kind := range someCommits {
		for behind := range crashKinds {
			c := newCommit(t, kind, 1<<22)
			c.b.commit(t, c.root)
			c.b.d.Restart(crash(r, behind))
			c.b.open(t)
			c.b.agrees(t)
			for h, code := range c.written {
				if got, ok, err := c.b.x.Get(h); string(got) != code || !ok || err != nil {
					t.Fatalf("P15.4: %x, %v, %v", got, ok, err)
				}
			}
		}
	}
}

// TestWithoutPower: reads are as the store's: while the power is down, it tells its nodes or an error, and so do Get and Insert, which changes nothing then.
func TestWithoutPower(t *testing.T) {
	t.Parallel()
	b := newBench(t)
	root, l := made("a", "b", "c")
	other, m := made("d", "e")
	b.put(t, m...)
	b.insert(t, root, l)
	b.d.Halt(0)
	if err := b.x.Commit(root); !is(err, api.ErrDiskDown) {
		t.Fatalf("P15.2: %v", err)
	}
	b.unchanged(t)
	if got, ok, err := b.x.Get(other); err == nil && (!ok || !bytes.Equal(got, m[2].Bytes)) || err != nil && !is(err, api.ErrDiskDown) {
		t.Errorf("P15.3: %x, %v, %v", got, ok, err)
	}
	further, n := made("f", "g")
	switch err := b.x.Insert(further, n); {
	case err == nil:
		b.m.insert(further, n)
	case !is(err, api.ErrDiskDown):
		t.Errorf("P15.1: %v", err)
	}
	b.unchanged(t)
}

// TestFaultsAreApart: an error that was told may be changed, and the next one is as it was.
func TestFaultsAreApart(t *testing.T) {
	t.Parallel()
	b := newBench(t)
	if err := b.store.Close(); err != nil {
		t.Fatal(err)
	}
	_, l := made("a", "b")
	calls := map[string]func() error{
		"Insert": func() error { return b.x.Insert(l[0].Hash, l) },
		"hurt":   func() error { return b.x.Insert(l[0].Hash, []api.Node{{}}) },
		"Get":    func() error { _, _, err := b.x.Get(l[0].Hash); return err },
		"Drop":   func() error { return b.x.Drop(l[0].Hash) },
		"Commit": func() error { return b.x.Commit(l[0].Hash) },
	}
	for what, call := range calls {
		first, second := call(), call()
		if first == nil || second == nil || first.Error() != second.Error() {
			t.Fatalf("%s: %v, %v", what, first, second)
		}
		said := second.Error()
		for err := first; err != nil; {
			f, ok := err.(*api.Fault)
			if !ok {
				break
			}
			err = f.Err
			f.Op, f.Err = "?", api.OK
		}
		if second.Error() != said || call().Error() != said {
			t.Errorf("rule 3: %s: %v", what, second)
		}
	}
}

// TestDeadStore: one that was dead ahead of all: it reads, and takes nothing.
func TestDeadStore(t *testing.T) {
	t.Parallel()
	b := newBench(t)
	root, l := made("a", "b", "c")
	b.put(t, l[1])
	b.d.Fail(1)
	if err := b.store.Write([]api.Op{{Key: []byte("k")}}); !is(err, api.ErrDiskIO) {
		t.Fatal(err)
	}
	b.insert(t, root, l)
	b.hasDirty(t, 3)
	if err := b.x.Commit(root); !is(err, api.ErrLsmReadOnly) {
		t.Errorf("P15.2: %v", err)
	}
	b.agrees(t)
	if err := b.x.Commit(l[0].Hash); !is(err, api.ErrTriedbRoot) {
		t.Errorf("P15.2: %v", err)
	}
	b.drained(t)
}
