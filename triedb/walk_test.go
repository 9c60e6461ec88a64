package triedb_test

import (
	"bytes"
	"fmt"
	"math/rand"
	"slices"
	"testing"

	"moraine/api"
	"moraine/trie"
)

// world: a trie with the storages that its accounts lead to.
type world struct {
	root  api.Hash
	nodes []api.Node
	m     map[string]string
}

// drawnTrie: of few keys and values, so that many share nodes; some values stand within their parents.
func drawnTrie(r *rand.Rand, value func() []byte) world {
	x, m := trie.New(trie.Empty(), nil), map[string]string{}
	for range r.Intn(6) {
		key := []byte{byte(r.Intn(3) * 16), byte(r.Intn(3)), byte(r.Intn(2))}[:1+r.Intn(3)]
		v := value()
		if e := x.Put(key, v); e != api.OK {
			panic(e)
		}
		m[string(key)] = string(v)
	}
	return world{x.Root(), x.Nodes(), m}
}

func drawnWorld(r *rand.Rand) world {
	slot := func() []byte {
		return bytes.Repeat([]byte{byte(1 + r.Intn(3))}, []int{1, 5, 33, 60}[r.Intn(4)])
	}
	var storages []world
	for range 3 {
		storages = append(storages, drawnTrie(r, slot))
	}
	var nodes []api.Node
	w := drawnTrie(r, func() []byte {
		s := storages[r.Intn(3)]
		nodes = append(nodes, s.nodes...)
		switch r.Intn(8) {
		case 0:
			return slot()
		case 1:
			return drawnRecord(r, s.root)
		}
		return record(s.root)
	})
	w.nodes = append(nodes, w.nodes...)
	return w
}

// hurt: a world's nodes in another order, some missing, some twice, some of another world; now and then one that isn't right.
func hurt(r *rand.Rand, l, others []api.Node) []api.Node {
	l = slices.Clone(l)
	r.Shuffle(len(l), func(i, j int) { l[i], l[j] = l[j], l[i] })
	for range r.Intn(3) {
		if len(l) > 0 {
			l = slices.Delete(l, 0, 1)
		}
	}
	for range r.Intn(3) {
		if len(others) > 0 {
			l = append(l, others[r.Intn(len(others))])
		}
	}
	if len(l) > 0 && r.Intn(10) == 0 {
		i := r.Intn(len(l))
		if len(l[i].Bytes) > 0 && r.Intn(2) == 0 {
			l[i].Bytes = bytes.Clone(l[i].Bytes)
			l[i].Bytes[r.Intn(len(l[i].Bytes))] ^= 1 << r.Intn(8)
		} else {
			l[i].Hash[r.Intn(32)] ^= 1 << r.Intn(8)
		}
	}
	return l
}

// walk: a bench, and worlds that it was told of.
type walk struct {
	*bench
	r      *rand.Rand
	worlds []world
}

func (w *walk) world() world {
	if len(w.worlds) == 0 || len(w.worlds) < 20 && w.r.Intn(4) == 0 {
		w.worlds = append(w.worlds, drawnWorld(w.r))
	}
	return w.worlds[w.r.Intn(len(w.worlds))]
}

// some: a node's hash, mostly; a root's, often.
func (w *walk) some() api.Hash {
	x := w.world()
	switch {
	case w.r.Intn(20) == 0:
		return api.Hash{byte(w.r.Intn(3))}
	case w.r.Intn(3) > 0 || len(x.nodes) == 0:
		return x.root
	}
	return x.nodes[w.r.Intn(len(x.nodes))].Hash
}

// someHeld: one that is held, mostly; of several which one hangs on the seed alone.
func (w *walk) someHeld() api.Hash {
	var l []api.Hash
	for h := range w.m.held {
		l = append(l, h)
	}
	if len(l) == 0 || w.r.Intn(6) == 0 {
		return w.some()
	}
	slices.SortFunc(l, func(p, q api.Hash) int { return bytes.Compare(p[:], q[:]) })
	return l[w.r.Intn(len(l))]
}

func (w *walk) step(t *testing.T) {
	t.Helper()
	switch x := w.world(); w.r.Intn(12) {
	case 0, 1, 2:
		w.insert(t, x.root, x.nodes)
	case 3:
		w.insert(t, w.some(), hurt(w.r, x.nodes, w.world().nodes))
	case 4:
		w.insert(t, x.root, hurt(w.r, x.nodes, w.world().nodes))
	case 5, 6, 7:
		w.drop(t, w.someHeld())
	case 8, 9:
		w.commit(t, w.someHeld())
	case 10:
		if len(x.nodes) > 0 {
			n := x.nodes[w.r.Intn(len(x.nodes))]
			if _, clean := w.m.clean[n.Hash]; clean && w.r.Intn(2) == 0 {
				w.take(t, n.Hash)
			} else {
				w.put(t, n)
			}
		}
	case 11:
		if _, err := w.store.Settle(2); err != nil {
			t.Fatal(err)
		}
	}
	w.reads(t)
}

// reads: that a trie of the DB tells of a world what one over the model's nodes does; all of it, where all nodes are there.
func (w *walk) reads(t *testing.T) {
	t.Helper()
	x := w.world()
	got, want := w.x.Trie(x.root), trie.New(x.root, w.m.nodes())
	whole := true
	for _, n := range x.nodes {
		_, there := w.m.get(n.Hash)
		whole = whole && there
	}
	for _, key := range []string{"", "\x00", "\x00\x00", "\x10\x01", "\x20\x02\x01"} {
		if a, b := tells(got, key), tells(want, key); a != b {
			t.Fatalf("P15.3: a trie tells of %x %s, not %s", key, a, b)
		}
	}
	for key, value := range x.m {
		if a := tells(got, key); whole && a != fmt.Sprint(value, " true 0") {
			t.Fatalf("P15.3: a whole trie tells of %x %s", key, a)
		}
	}
}

// TestWalks: drawn worlds, whole or not, inserted, dropped, committed, in any order, over a store that others write to, too.
func TestWalks(t *testing.T) {
	t.Parallel()
	seeded(t, 60, func(t *testing.T, r *rand.Rand) {
		w := &walk{bench: newBench(t), r: r}
		for range 120 {
			w.step(t)
		}
		w.drained(t)
	})
}

// TestWalksThatFall: likewise, with power that falls or calls that fail in the midst of Commits, again and again: all of what a Commit would have written is there behind it, or none of it.
func TestWalksThatFall(t *testing.T) {
	t.Parallel()
	wholes, nones := 0, 0
	for seed := range int64(25) {
		r := rand.New(rand.NewSource(seed))
		w := &walk{bench: newBench(t), r: r}
		for range 12 {
			for range r.Intn(20) {
				w.step(t)
			}
			w.d.Halt(r.Intn(4))
			if r.Intn(2) == 0 {
				w.d.Halt(-1)
				w.d.Fail(1 + r.Intn(4))
			}
			root := w.someHeld()
			written, there := w.m.toCommit(root)
			err := w.x.Commit(root)
			w.agreesDirtyBehind(t, root, err)
			w.d.Restart(crash(r, r.Intn(crashKinds)))
			w.d.Halt(-1)
			last := sayClean(w.m.clean)
			w.open(t)
			if got := sayStore(t, w.store); err != nil && there && got != last {
				for h, code := range written {
					w.m.clean[h] = code
				}
				wholes++
			} else if err != nil && len(written) > 0 {
				nones++
			}
			w.agrees(t)
		}
		w.drained(t)
	}
	if wholes < 5 || nones < 5 {
		t.Errorf("%d times whole, %d times none", wholes, nones)
	}
}

// agreesDirtyBehind: that a Commit did what the model tells, or, with an error of the disk, nothing.
func (w *walk) agreesDirtyBehind(t *testing.T, root api.Hash, err error) {
	t.Helper()
	_, there := w.m.toCommit(root)
	switch {
	case err == nil:
		if w.m.commit(root) != api.OK {
			t.Fatal("P15.2: Commit of a root that isn't there")
		}
	case !there:
		if !is(err, api.ErrTriedbRoot) {
			t.Fatalf("P15.2: %v", err)
		}
	case !is(err, api.ErrDiskDown) && !is(err, api.ErrDiskIO):
		t.Fatalf("P15.2: %v", err)
	}
	w.agreesDirty(t)
}

// TestNotByScheduling: two DBs that are told the same tell the same, and lay down the same bytes.
func TestNotByScheduling(t *testing.T) {
	t.Parallel()
	seeded(t, 5, func(t *testing.T, r *rand.Rand) {
		seed := r.Int63()
		var logs []string
		for range 2 {
			w := &walk{bench: newBench(t), r: rand.New(rand.NewSource(seed))}
			for range 60 {
				w.step(t)
			}
			log := fmt.Sprintf("%x", w.x.Dirty())
			names, _ := w.d.Names()
			for _, name := range names {
				b, _ := w.d.Read(name)
				log += fmt.Sprintf("%s %x\n", name, b)
			}
			logs = append(logs, log)
		}
		if logs[0] != logs[1] {
			t.Error("rule 6: it isn't the same twice")
		}
	})
}
