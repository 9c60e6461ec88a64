package state_test

import (
	"bytes"
	"maps"
	"math/big"
	"math/rand"
	"slices"
	"strings"
	"testing"

	"moraine/api"
	"moraine/keccak"
	"moraine/rawdb"
	"moraine/state"
	"moraine/trie"
	"moraine/triedb"
)

// drawLedger draws accounts, none of which is none.
func drawLedger(r *rand.Rand, count int) ledger {
	l := ledger{}
	for i := range count {
		x := account{nonce: uint64(i + 1), balance: big.NewInt(int64(r.Intn(300))), slots: map[api.Word]api.Word{}}
		for range r.Intn(3) * r.Intn(5) {
			x.slots[word(r.Intn(8))] = word(1 + r.Intn(300))
		}
		if r.Intn(3) == 0 {
			x.code = strings.Repeat("c", 1+r.Intn(3))
		}
		l[addr(i)] = x
	}
	return l
}

// kept: a world whose nodes and codes all stand in the store.
func kept(t *testing.T, l ledger) (*bench, api.Hash) {
	t.Helper()
	b := newBench(t)
	root := b.adopt(t, l)
	if err := b.nodes.Commit(root); err != nil {
		t.Fatal(err)
	}
	for _, x := range l {
		if err := b.store.Write([]api.Op{{Key: rawdb.CodeKey(keccak.Sum([]byte(x.code))), Value: []byte(x.code)}}); err != nil {
			t.Fatal(err)
		}
		b.codes[x.code] = struct{}{}
	}
	b.addrs = slices.SortedFunc(maps.Keys(l), func(a, b api.Addr) int { return strings.Compare(string(a[:]), string(b[:])) })
	b.open(root)
	return b, root
}

// lose: a node isn't there any more, or it is none.
func (b *bench) lose(t *testing.T, h api.Hash, isHurt bool) api.Errno {
	t.Helper()
	op, want := api.Op{Key: rawdb.NodeKey(h), Delete: true}, api.ErrTrieNode
	if isHurt {
		op, want = api.Op{Key: rawdb.NodeKey(h), Value: []byte("no node")}, api.ErrTrieForm
	}
	if err := b.store.Write([]api.Op{op}); err != nil {
		t.Fatal(err)
	}
	return want
}

func (b *bench) restore(t *testing.T, n api.Node) {
	t.Helper()
	if err := b.store.Write([]api.Op{{Key: rawdb.NodeKey(n.Hash), Value: n.Bytes}}); err != nil {
		t.Fatal(err)
	}
}

// probe: a trie over nodes, and the hashes of those that it asked for.
func probe(root api.Hash, nodes []api.Node) (*trie.Trie, map[api.Hash]int) {
	all, asked := map[api.Hash][]byte{}, map[api.Hash]int{}
	for _, n := range nodes {
		all[n.Hash] = n.Bytes
	}
	return trie.Open(root, func(h api.Hash) ([]byte, bool) {
		asked[h]++
		b, ok := all[h]
		return b, ok
	}), asked
}

// ways: the nodes on a key's way.
func ways(root api.Hash, nodes []api.Node, key []byte) map[api.Hash]int {
	x, asked := probe(root, nodes)
	if _, _, e := x.Get(trie.Secure(key)); e != api.OK {
		panic(e)
	}
	return asked
}

// TestMissing: each node in turn isn't there, or is none: just those calls are refused that need it, and these change nothing.
func TestMissing(t *testing.T) {
	t.Parallel()
	seeded(t, 3, func(t *testing.T, r *rand.Rand) {
		l := drawLedger(r, 9)
		b, root := kept(t, l)
		_, nodes := l.trie()
		for i, n := range nodes {
			want := b.lose(t, n.Hash, i%3 == 0)
			for j := range 11 {
				a := addr(j)
				onWay := api.OK
				if ways(root, nodes, a[:])[n.Hash] > 0 {
					onWay = want
				}
				k := word(r.Intn(8))
				inSlots := onWay
				if ways(l.at(a).storageRoot(), nodes, k[:])[n.Hash] > 0 {
					inSlots = want
				}
				b.open(root)
				b.touches(t, a, k, onWay, inSlots)
			}
			b.restore(t, n)
			b.open(root)
			b.agrees(t)
		}
	})
}

// touches: that each call on an account answers the errors that it is to, and has changed nothing with one.
func (b *bench) touches(t *testing.T, a api.Addr, k api.Word, onWay, inSlots api.Errno) {
	t.Helper()
	if onWay != api.OK {
		refuses(t, b.x, a, onWay)
	} else if got, ok, err := b.x.Account(a); err != nil || ok != !b.m.now.at(a).isNone() {
		t.Errorf("P18.2: Account: %v, %v, %v", got, ok, err)
	}
	v, err := b.x.Slot(a, k)
	if !is(err, inSlots) || err == nil && v != b.m.now.at(a).slots[k] {
		t.Errorf("P18.2: Slot: %x, %v, not %d", v, err, inSlots)
	}
	if err := b.x.SetSlot(a, k, word(99)); !is(err, inSlots) {
		t.Errorf("P18.3: SetSlot: %v, not %d", err, inSlots)
	} else if err == nil {
		b.m.setSlot(a, k, word(99))
	}
	if err := b.x.Add(a, word(1)); !is(err, onWay) {
		t.Errorf("P18.3: Add: %v, not %d", err, onWay)
	} else if err == nil {
		b.m.deal(a, word(1), 1)
	}
	b.root(t)
	b.x.Destroy(a)
	if err := b.x.SetSlot(a, k, word(7)); !is(err, onWay) { // nothing of its storage is needed
		t.Errorf("P18.3: SetSlot of what was destroyed: %v, not %d", err, onWay)
	}
}

// net: a change of one entry; one that is taken away has no value.
type net struct{ key, value string }

// needed: which nodes a root's trie needs for changes: those that put go first.
func needed(root api.Hash, nodes []api.Node, l []net) map[api.Hash]int {
	x, asked := probe(root, nodes)
	for _, c := range l {
		if c.value != "" {
			x.Put([]byte(c.key), []byte(c.value))
		}
	}
	for _, c := range l {
		if c.value == "" {
			x.Delete([]byte(c.key))
		}
	}
	return asked
}

// drawScript draws what is done with a world; some of it is taken back.
func drawScript(r *rand.Rand) func(t *testing.T, b *bench) {
	var l []func(t *testing.T, b *bench)
	for range 1 + r.Intn(5) {
		a, other, k, v, kind := addr(r.Intn(11)), addr(r.Intn(20)), word(r.Intn(8)), word(r.Intn(3)), r.Intn(4)
		l = append(l, func(t *testing.T, b *bench) {
			switch kind {
			case 0:
				b.setSlot(t, a, k, v)
			case 1: // it is none then
				b.sub(t, a, wordOf(b.m.now.at(a).balance))
				b.setNonce(t, a, 0)
				b.setCode(t, a, "")
			case 2:
				b.add(t, a, v)
			case 3:
				m := b.mark(t)
				b.destroy(t, a)
				b.add(t, other, word(1))
				b.setSlot(t, other, k, v)
				b.root(t)
				b.revert(t, m)
			}
		})
	}
	return func(t *testing.T, b *bench) {
		for _, f := range l {
			f(t, b)
		}
	}
}

// needs: the nodes that Root needs for what was done with a world, and those that Commit needs beside them.
func needs(l ledger, m *model) (map[api.Hash]int, map[api.Hash]int) {
	inRoot, inCommit := map[api.Hash]int{}, map[api.Hash]int{}
	root, nodes := l.trie()
	to := m.now.settled(m.met)
	var records []net
	for a := range m.met {
		was, now := l.at(a), to.at(a)
		if now.isNone() {
			_, below := laid(was.storage())
			for _, n := range below {
				inCommit[n.Hash]++
			}
			if !was.isNone() {
				records = append(records, net{string(trie.Secure(a[:])), ""})
			}
			continue
		}
		var slots []net
		for _, c := range changes(was.storage(), now.storage()) {
			slots = append(slots, net{string(c.Key), string(c.Value)})
		}
		maps.Copy(inRoot, needed(was.storageRoot(), nodes, slots))
		if was.isNone() || was.record() != now.record() {
			records = append(records, net{string(trie.Secure(a[:])), now.record()})
		}
	}
	maps.Copy(inRoot, needed(root, nodes, records))
	return inRoot, inCommit
}

// TestRootMissing: changes are made, and then each node in turn isn't there, or is none: Root and Commit are refused just where they need it; then nothing has changed, and when it is there they aren't.
func TestRootMissing(t *testing.T) {
	t.Parallel()
	refused := 0
	for seed := range 12 {
		r := rand.New(rand.NewSource(int64(seed)))
		l := drawLedger(r, 9)
		b, root := kept(t, l)
		_, nodes := l.trie()
		script := drawScript(r)
		for i, n := range nodes {
			b.nodes = triedb.New(b.store)
			again := func() (map[api.Hash]int, map[api.Hash]int) {
				b.restore(t, n)
				b.open(root)
				script(t, b)
				b.mark(t)
				return needs(l, b.m)
			}
			inRoot, inCommit := again()
			e := b.lose(t, n.Hash, i%3 == 0)
			if inRoot[n.Hash] == 0 {
				b.root(t)
				inRoot, inCommit = again()
				b.lose(t, n.Hash, i%3 == 0)
			} else if got, err := b.x.Root(); !is(err, e) || got != (api.Hash{}) {
				t.Fatalf("P18.5: Root without node %d: %x, %v, not %d", i, got, err, e)
			}
			if inRoot[n.Hash]+inCommit[n.Hash] > 0 {
				refused++
				got, flat, err := b.x.Commit()
				if !is(err, e) || got != (api.Hash{}) || len(flat) > 0 {
					t.Fatalf("P18.5: Commit without node %d: %x, %v", i, got, err)
				}
				b.restore(t, n)
				b.revert(t, b.m.next-1) // no mark is gone
				if dirty := b.nodes.Dirty(); len(dirty) > 0 {
					t.Fatalf("rule 4: %d nodes were inserted", len(dirty))
				}
			}
			top, flat := b.m.commit()
			if got, l, err := b.x.Commit(); got != top || !alike(l, flat) || err != nil {
				t.Fatalf("P18.5: Commit without node %d: %x, %v", i, got, err)
			}
			b.restore(t, n)
			b.agrees(t)
		}
	}
	if refused < 30 {
		t.Errorf("only %d were refused", refused)
	}
}

// placed: an address whose secure key begins with these nibbles.
func placed(nibbles ...byte) api.Addr {
	for i := 0; ; i++ {
		a := addr(i)
		if path := trie.Nibbles(trie.Secure(a[:])); slices.Equal(path[:len(nibbles)], nibbles) {
			return a
		}
	}
}

// TestNothingIsLeft: a node that what was taken back needed, or made to be needed, isn't needed any more.
func TestNothingIsLeft(t *testing.T) {
	t.Parallel()
	one, two, other, third := placed(3, 1), placed(3, 2), placed(4), placed(5)
	l := ledger{one: of(1, 0, nil), two: of(2, 0, nil)}
	b, root := kept(t, l)
	_, nodes := l.trie()
	top := slices.IndexFunc(nodes, func(n api.Node) bool { return n.Hash == root })
	below, _ := trie.Children(nodes[top].Bytes)
	if len(below) != 1 {
		t.Fatalf("%d nodes below the root", len(below))
	}
	b.lose(t, below[0], false)
	for range 2 {
		m := b.mark(t)
		b.add(t, other, word(1))
		b.root(t)
		b.add(t, third, word(1))
		b.root(t)
		b.revert(t, m)
		if b.root(t) != root {
			t.Error("P18.6: another root")
		}
		b.add(t, other, word(1)) // taken away by hand
		b.root(t)
		b.sub(t, other, word(1))
		b.root(t)
	}
	if got, l, err := b.x.Commit(); got != root || len(l) > 0 || err != nil {
		t.Errorf("P18.6: %x, %d changes, %v", got, len(l), err)
	}
}

// TestOneLeft: what is left beside an account that goes is looked at, but where another account comes.
func TestOneLeft(t *testing.T) {
	t.Parallel()
	stays, goes := placed(7), placed(8)
	sides := [2]int{}
	for nibble := range byte(16) {
		comes := placed(nibble)
		if nibble == 7 || nibble == 8 {
			continue
		}
		if bytes.Compare(comes[:], goes[:]) < 0 {
			sides[0]++
		} else {
			sides[1]++
		}
		l := ledger{stays: of(1, 0, nil), goes: of(2, 0, nil)}
		b, _ := kept(t, l)
		root, nodes := l.trie()
		var left api.Hash
		for h := range ways(root, nodes, stays[:]) {
			if h != root {
				left = h
			}
		}
		b.setNonce(t, goes, 0)
		b.lose(t, left, false)
		if _, err := b.x.Root(); !is(err, api.ErrTrieNode) {
			t.Errorf("P18.5: %v", err)
		}
		b.lose(t, left, true)
		if _, _, err := b.x.Commit(); !is(err, api.ErrTrieForm) {
			t.Errorf("P18.5: %v", err)
		}
		b.add(t, comes, word(1))
		b.root(t)
		want, flat := b.m.commit()
		if got, l, err := b.x.Commit(); got != want || !alike(l, flat) || err != nil {
			t.Errorf("P18.5: %x, %s, %v", got, say(l), err)
		}
	}
	if sides[0] == 0 || sides[1] == 0 {
		t.Errorf("accounts come %d times ahead, %d times behind", sides[0], sides[1])
	}
}

// TestWhichErrorFirst: of nodes that aren't there, and others that are none, those that aren't there are told, whichever stands first; the store's errors are told ahead of both.
func TestWhichErrorFirst(t *testing.T) {
	t.Parallel()
	slots := func() map[api.Word]api.Word { return map[api.Word]api.Word{word(1): word(1), word(2): word(2)} }
	l := ledger{}
	for i := range 6 {
		x := of(uint64(i+1), 0, slots())
		x.slots[word(3)] = word(i + 1)
		l[addr(i)] = x
	}
	for _, what := range []string{"slots", "destroyed", "both", "accounts"} {
		for _, hurt := range []int{0, 5, 3} {
			for lost := range 6 {
				if lost == hurt {
					continue
				}
				b, root := kept(t, l)
				_, nodes := l.trie()
				for i := range 6 {
					if what == "slots" || what == "both" && i != lost {
						b.setSlot(t, addr(i), word(1), word(9))
					} else if what == "accounts" {
						b.add(t, addr(i), word(1))
					} else {
						b.destroy(t, addr(i))
					}
				}
				end := func(i int) api.Hash {
					if what != "accounts" {
						return l[addr(i)].storageRoot()
					}
					a := addr(i)
					for h := range ways(root, nodes, a[:]) {
						if below, _ := trie.Children(nodes[slices.IndexFunc(nodes, func(n api.Node) bool { return n.Hash == h })].Bytes); len(below) == 0 {
							return h
						}
					}
					t.Fatal("no leaf")
					return api.Hash{}
				}
				b.lose(t, end(hurt), true)
				if _, _, err := b.x.Commit(); !is(err, api.ErrTrieForm) {
					t.Fatalf("P18.1: %s: %v", what, err)
				}
				b.lose(t, end(lost), false)
				if _, _, err := b.x.Commit(); !is(err, api.ErrTrieNode) {
					t.Errorf("rule 4: %s: %v", what, err)
				}
				if _, err := b.x.Root(); what == "slots" && !is(err, api.ErrTrieNode) {
					t.Errorf("rule 4: %s: %v", what, err)
				}
				b.store.Close()
				if _, _, err := b.x.Commit(); !is(err, api.ErrLsmClosed) {
					t.Errorf("rule 4: %s: %v", what, err)
				}
			}
		}
	}
}

// TestWaysBesideStorages: an account's way isn't there, and its storage is none: what is told is the way's error.
func TestWaysBesideStorages(t *testing.T) {
	t.Parallel()
	l := drawLedger(rand.New(rand.NewSource(3)), 6)
	for i := range 6 {
		l[addr(i)].slots[word(1)] = word(i + 1)
	}
	b, root := kept(t, l)
	_, nodes := l.trie()
	for i := range 6 {
		b.open(root)
		a := addr(i)
		b.setSlot(t, a, word(1), word(100))
		storage := l[a].storageRoot()
		b.lose(t, storage, true)
		if _, err := b.x.Root(); !is(err, api.ErrTrieForm) {
			t.Errorf("P18.1: %v", err)
		}
		b.lose(t, root, false)
		if _, err := b.x.Root(); !is(err, api.ErrTrieNode) {
			t.Errorf("rule 4: %v", err)
		}
		for _, n := range nodes {
			b.restore(t, n)
		}
		b.root(t)
	}
}

// TestNoSuchRoot: nothing of a root is there: each call that needs any of it is refused.
func TestNoSuchRoot(t *testing.T) {
	t.Parallel()
	b := newBench(t)
	for _, isHurt := range []bool{false, true} {
		root := api.Hash{9}
		want := b.lose(t, root, isHurt)
		x := state.Open(root, triedb.New(b.store), b.store)
		refuses(t, x, addr(1), want)
		if got, err := x.Root(); got != root || err != nil { // nothing is needed for it
			t.Errorf("P18.5: %x, %v", got, err)
		}
		if x.Mark() != 0 || x.Revert(0) != nil {
			t.Error("P18.4: marks")
		}
		if got, l, err := x.Commit(); got != root || len(l) > 0 || err != nil {
			t.Errorf("P18.5: %x, %d, %v", got, len(l), err)
		}
		refuses(t, x, addr(2), want)
	}

}
