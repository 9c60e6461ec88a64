package state_test

import (
	"maps"
	"math/rand"
	"slices"
	"strings"
	"testing"

	"moraine/api"
	"moraine/keccak"
	"moraine/rawdb"
	"moraine/state"
	"moraine/trie"
	"moraine/triedb"
)

const crashKinds = 5

// crash: by kinds, nothing that was pending survives, all of it, all bytes, all names, some of it.
func crash(r *rand.Rand, kind int) api.Crash {
	all := api.Crash{Names: 1 << 20, Bytes: slices.Repeat([]int{1 << 26}, 400)}
	switch kind {
	case 0:
		return api.Crash{}
	case 1:
		return all
	case 2:
		return api.Crash{Bytes: all.Bytes}
	case 3:
		return api.Crash{Names: all.Names}
	}
	c := api.Crash{Names: r.Intn(6)}
	for range 400 {
		c.Bytes = append(c.Bytes, r.Intn(200))
	}
	return c
}

// ready: a state of a committed world, with changes and a mark, and with three codes that are new.
func ready(t *testing.T) (*bench, api.Hash) {
	t.Helper()
	b := newBench(t)
	for i := range 5 {
		b.add(t, addr(i), word(i+1))
		b.setSlot(t, addr(i), word(i), word(7))
	}
	b.setCode(t, addr(1), "old")
	root := b.commit(t)
	if err := b.nodes.Commit(root); err != nil {
		t.Fatal(err)
	}
	b.setCode(t, addr(0), "one")
	b.setCode(t, addr(1), "two")
	b.setCode(t, addr(2), "three")
	b.setCode(t, addr(3), "two") // the same again
	b.setCode(t, addr(7), "old") // the store has it
	b.mark(t)
	b.setSlot(t, addr(2), word(1), word(1))
	b.destroy(t, addr(4))
	b.setSlot(t, addr(9), word(1), word(1)) // it is none
	b.addrs = append(b.addrs, addr(7), addr(9))
	return b, root
}

// isAhead: that a Commit that answered an error has changed nothing: the world, its marks, what is dirty and held.
func (b *bench) isAhead(t *testing.T, dirty []api.Hash) {
	t.Helper()
	b.agrees(t)
	if got := b.nodes.Dirty(); !slices.Equal(got, dirty) {
		t.Fatalf("rule 4: %d nodes are dirty, not %d", len(got), len(dirty))
	}
	m := *b.m
	root, _ := m.commit()
	if err := b.nodes.Drop(root); !is(err, api.ErrTriedbRoot) {
		t.Fatalf("rule 4: the root is held: %v", err)
	}
}

// TestCommitFails: each changing call of the disk fails, or power falls at it, in the midst of a Commit: its error, and the state is as it was; it reads on, and commits nothing whose codes can't be written. Behind a Restart the world that was committed ahead is there, and can be changed again.
func TestCommitFails(t *testing.T) {
	t.Parallel()
	r := rand.New(rand.NewSource(1))
	for _, want := range []api.Errno{api.ErrDiskIO, api.ErrDiskDown} {
		calls := 0
		for failed := true; failed; calls++ {
			for kind := range crashKinds {
				b, root := ready(t)
				dirty := b.nodes.Dirty()
				if want == api.ErrDiskIO {
					b.d.Fail(calls + 1)
				} else {
					b.d.Halt(calls)
				}
				got, l, err := b.x.Commit()
				if failed = err != nil; !failed {
					break
				}
				if !is(err, want) || got != (api.Hash{}) || len(l) > 0 {
					t.Fatalf("P18.5: %x, %d, %v, not %d", got, len(l), err, want)
				}
				if want == api.ErrDiskIO {
					b.isDead(t, dirty)
				} else {
					b.d.Restart(crash(r, kind))
					b.start(t)
				}
				b.open(root)
				b.agrees(t)
			}
		}
		if calls < 4 {
			t.Errorf("too few calls: %d", calls)
		}
	}
}

// isDead: what a state is like above a store that takes nothing any more.
func (b *bench) isDead(t *testing.T, dirty []api.Hash) {
	t.Helper()
	for range 2 {
		b.isAhead(t, dirty)
		if _, _, err := b.x.Commit(); !is(err, api.ErrLsmReadOnly) {
			t.Fatalf("P18.5: %v", err)
		}
		b.add(t, addr(3), word(1))
		m := b.mark(t)
		b.destroy(t, addr(2))
		b.agrees(t)
		b.revert(t, m)
		b.root(t)
	}
	b.revert(t, 0) // no mark is gone
	b.agrees(t)
	// Without a new code nothing is written.
	for _, a := range b.addrs {
		if b.m.now.at(a).code != "old" {
			b.setCode(t, a, "")
		}
	}
	b.commit(t)
	b.agrees(t)
}

// TestCommitFallsAndGoesOn: power falls in the midst of a Commit; behind the Restart the same is done again, and is whole.
func TestCommitFallsAndGoesOn(t *testing.T) {
	t.Parallel()
	for calls := range 12 {
		for kind := range crashKinds {
			b, root := ready(t)
			b.d.Halt(calls)
			top, _, err := b.x.Commit()
			if err == nil {
				err = b.nodes.Commit(top)
			}
			b.d.Restart(crash(rand.New(rand.NewSource(int64(calls))), kind))
			b.start(t)
			b.open(root)
			b.agrees(t)
			if _, ok, _ := b.nodes.Get(top); err == nil && !ok {
				t.Fatal("P15.4: it isn't there")
			}
			b.codes = map[string]struct{}{}
			for _, code := range []string{"old", "one", "two", "three"} {
				if _, ok, _ := b.store.Get(rawdb.CodeKey(keccak.Sum([]byte(code)))); ok {
					b.codes[code] = struct{}{}
				}
			}
			b.setCode(t, addr(0), "one")
			b.setCode(t, addr(3), "two")
			b.setCode(t, addr(2), "three")
			b.setSlot(t, addr(2), word(1), word(1))
			b.destroy(t, addr(4))
			b.commit(t)
			b.agrees(t)
		}
	}
}

// TestFull: the disk has no room for the codes: the error, and nothing has changed; where none is new there is no error.
func TestFull(t *testing.T) {
	t.Parallel()
	b, _ := ready(t)
	dirty := b.nodes.Dirty()
	for _, e := range []api.Errno{b.d.Create("mine"), b.d.Append("mine", make([]byte, 1<<22-b.d.Used()-100))} {
		if e != api.OK {
			t.Fatal(e)
		}
	}
	b.setCode(t, addr(1), strings.Repeat("c", 4096))
	if _, _, err := b.x.Commit(); !is(err, api.ErrDiskFull) {
		t.Fatalf("P18.5: %v", err)
	}
	b.isAhead(t, dirty)
	b.isDead(t, dirty)
}

// TestClosed: a store that is closed: calls that need it answer its error, and those that don't go on.
func TestClosed(t *testing.T) {
	t.Parallel()
	b, root := ready(t)
	fresh, unread := state.Open(root, b.nodes, b.store), state.Open(trie.Empty(), b.nodes, b.store)
	coded := b.x
	if err := b.store.Close(); err != nil {
		t.Fatal(err)
	}
	refuses(t, fresh, addr(1), api.ErrLsmClosed)
	if got, err := fresh.Root(); got != root || err != nil {
		t.Errorf("P18.5: %x, %v", got, err)
	}
	if fresh.Mark() != 0 || fresh.Revert(0) != nil || !is(fresh.Revert(0), api.ErrStateRevert) {
		t.Error("P18.4: marks")
	}
	if _, err := coded.Root(); !is(err, api.ErrLsmClosed) {
		t.Errorf("P18.1: %v", err)
	}
	if _, l, err := coded.Commit(); !is(err, api.ErrLsmClosed) || len(l) > 0 {
		t.Errorf("P18.1: %v", err)
	}
	if err := coded.Revert(0); err != nil {
		t.Errorf("P18.4: %v", err)
	}
	// What needs no node needs no store.
	if x, ok, err := unread.Account(addr(1)); x != (api.Account{}) || ok || err != nil {
		t.Errorf("P18.2: %v, %v, %v", x, ok, err)
	}
	if err := unread.Add(addr(1), word(1)); err != nil {
		t.Error(err)
	}
	if _, err := unread.Root(); err != nil {
		t.Error(err)
	}
	if _, _, err := unread.Commit(); !is(err, api.ErrLsmClosed) { // whether its nodes are there can't be told
		t.Errorf("P18.5: %v", err)
	}
	if x, ok, err := unread.Account(addr(1)); x.Balance != word(1) || !ok || err != nil {
		t.Errorf("rule 4: %v, %v, %v", x, ok, err)
	}
	// A code that can't be looked for.
	b, _ = ready(t)
	b.setCode(t, addr(1), "old")
	b.open(b.commit(t))
	b.x.Add(addr(1), word(1))
	if err := b.store.Close(); err != nil {
		t.Fatal(err)
	}
	if got, err := b.x.Code(addr(1)); len(got) > 0 || !is(err, api.ErrLsmClosed) {
		t.Errorf("P18.1: %q, %v", got, err)
	}
}

// TestBehindRestart: worlds that were committed, in both layers, are read behind a Restart: whole, with their codes.
func TestBehindRestart(t *testing.T) {
	t.Parallel()
	seeded(t, 10, func(t *testing.T, r *rand.Rand) {
		b := newBench(t)
		sure := map[api.Hash]ledger{trie.Empty(): {}}
		for round := range 5 {
			for range 20 {
				b.change(t, r)
			}
			root := b.commit(t)
			if err := b.nodes.Commit(root); err != nil {
				t.Fatal(err)
			}
			sure[root] = b.worlds[root]
			if round%2 == 0 {
				if err := b.store.Flush(); err != nil {
					t.Fatal(err)
				}
			}
			b.d.Restart(crash(r, r.Intn(crashKinds)))
			b.start(t)
			for root := range maps.Clone(sure) {
				b.open(root)
				b.agrees(t)
				b.isThere(t, root)
			}
			b.open(root)
		}
	})
}

// TestInserted: a Commit inserts by one Insert: its root is held once more by each, also where nothing has changed, or nothing is left; what is there already isn't dirty.
func TestInserted(t *testing.T) {
	t.Parallel()
	b := newBench(t)
	b.commit(t)
	b.commit(t)
	b.add(t, addr(1), word(1))
	b.setSlot(t, addr(1), word(1), word(2))
	b.setSlot(t, addr(1), word(2), word(2))
	root := b.commit(t)
	b.commit(t)
	count := len(b.nodes.Dirty())
	if _, nodes := b.worlds[root].trie(); count != len(nodes) {
		t.Errorf("P18.5: %d nodes are dirty", count)
	}
	b.open(trie.Empty()) // the same world once more
	b.add(t, addr(1), word(1))
	b.setSlot(t, addr(1), word(1), word(2))
	b.setSlot(t, addr(1), word(2), word(2))
	if b.commit(t) != root || len(b.nodes.Dirty()) != count {
		t.Errorf("P18.5: %d nodes are dirty", len(b.nodes.Dirty()))
	}
	if err := b.nodes.Commit(root); err != nil || len(b.nodes.Dirty()) != 0 {
		t.Errorf("P18.5: %v", err)
	}
	b.open(trie.Empty())
	b.add(t, addr(1), word(1))
	b.setSlot(t, addr(1), word(1), word(2))
	b.setSlot(t, addr(1), word(2), word(2))
	if b.commit(t) != root || len(b.nodes.Dirty()) != 0 {
		t.Errorf("P18.5: nodes are dirty that are there: %d", len(b.nodes.Dirty()))
	}
	b.open(root)
	b.destroy(t, addr(1))
	if b.commit(t) != trie.Empty() || len(b.nodes.Dirty()) != 0 {
		t.Error("P18.5: of nothing something is dirty")
	}
	b.released(t)
	// Nodes that were lost are there again, when a state makes the same world.
	_, nodes := b.worlds[root].trie()
	for _, n := range nodes {
		b.lose(t, n.Hash, false)
	}
	b.nodes = triedb.New(b.store)
	b.open(trie.Empty())
	b.add(t, addr(1), word(1))
	b.setSlot(t, addr(1), word(1), word(2))
	b.setSlot(t, addr(1), word(2), word(2))
	if b.commit(t) != root || len(b.nodes.Dirty()) != count {
		t.Errorf("P18.5: %d nodes are dirty", len(b.nodes.Dirty()))
	}
	b.released(t)
}

// TestCodes: which codes are written: those of the world that the store hasn't got, each by one batch, each once.
func TestCodes(t *testing.T) {
	t.Parallel()
	b := newBench(t)
	isStored := func(want bool, l ...string) {
		t.Helper()
		for _, code := range l {
			got, ok, err := b.store.Get(rawdb.CodeKey(keccak.Sum([]byte(code))))
			if ok != want || err != nil || want && string(got) != code {
				t.Errorf("P18.5: %.20q: %.20q, %v, %v", code, got, ok, err)
			}
		}
	}
	b.setCode(t, addr(1), "one")
	b.mark(t)
	b.setCode(t, addr(1), "two")
	b.setCode(t, addr(2), "three")
	b.setCode(t, addr(3), "four")
	b.setCode(t, addr(4), "four")
	b.destroy(t, addr(2))
	b.root(t)
	isStored(false, "one", "two", "three", "four", "")
	b.mark(t)
	b.setCode(t, addr(3), "five")
	b.revert(t, 1)
	b.agrees(t)
	b.commit(t)
	isStored(true, "two", "four")
	isStored(false, "one", "three", "five", "")
	if b.store.Last() != 2 {
		t.Errorf("P18.5: %d operations", b.store.Last())
	}
	b.setCode(t, addr(1), "")
	b.setCode(t, addr(2), "two")
	b.setCode(t, addr(3), strings.Repeat("c", 4096))
	b.commit(t)
	isStored(true, "two", "four", strings.Repeat("c", 4096))
	if b.store.Last() != 3 {
		t.Errorf("P18.5: %d operations", b.store.Last())
	}
	b.agrees(t)
	// A code that was hurt is told as it stands; one that is set is written over it.
	key := rawdb.CodeKey(keccak.Sum([]byte("two")))
	for _, op := range []api.Op{{Key: key, Value: []byte("hurt")}, {Key: key, Delete: true}} {
		if err := b.store.Write([]api.Op{op}); err != nil {
			t.Fatal(err)
		}
		want := api.ErrTrieNode
		if !op.Delete {
			want = api.OK
		}
		if got, err := b.x.Code(addr(2)); string(got) != string(op.Value) || !is(err, want) {
			t.Errorf("P18.2: %q, %v", got, err)
		}
		if err := b.x.SetCode(addr(2), []byte("two")); err != nil {
			t.Error(err)
		}
		if _, l, err := b.x.Commit(); len(l) > 0 || err != nil {
			t.Errorf("P18.5: %s, %v", say(l), err)
		}
		isStored(true, "two")
		b.agrees(t)
	}

}
