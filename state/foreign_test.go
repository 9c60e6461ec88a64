package state_test

import (
	"fmt"
	"maps"
	"math/big"
	"math/rand"
	"slices"
	"strings"
	"testing"

	"moraine/api"
	"moraine/keccak"
	"moraine/state"
	"moraine/trie"
)

// adopt: a world that no state committed.
func (b *bench) adopt(t *testing.T, l ledger) api.Hash {
	t.Helper()
	root, nodes := l.trie()
	if err := b.nodes.Insert(root, nodes); err != nil {
		t.Fatal(err)
	}
	b.held[root]++
	b.worlds[root] = l
	return root
}

func of(nonce uint64, balance int64, slots map[api.Word]api.Word) account {
	return account{nonce: nonce, balance: big.NewInt(balance), slots: slots}
}

// noneLedger: a world whose trie has accounts that are none, one without slots, some with.
func noneLedger() ledger {
	slots := func(n int) map[api.Word]api.Word {
		m := map[api.Word]api.Word{}
		for k := range n {
			m[word(k)] = word(k + n)
		}
		return m
	}
	return ledger{addr(0): of(0, 0, nil), addr(1): of(0, 0, slots(1)), addr(2): of(0, 0, slots(4)), addr(3): of(0, 5, slots(3)), addr(4): of(1, 0, nil)}
}

// TestMet: accounts that are none are taken away when they were met, by whatever answered no error, and not when they weren't.
func TestMet(t *testing.T) {
	t.Parallel()
	calls := map[string]func(b *bench, t *testing.T, a api.Addr){
		"none":         func(*bench, *testing.T, api.Addr) {},
		"Account":      func(b *bench, t *testing.T, a api.Addr) { b.x.Account(a); b.m.put(a, b.m.now.at(a)) },
		"Code":         func(b *bench, t *testing.T, a api.Addr) { b.x.Code(a); b.m.put(a, b.m.now.at(a)) },
		"Slot":         func(b *bench, t *testing.T, a api.Addr) { b.x.Slot(a, word(9)); b.m.put(a, b.m.now.at(a)) },
		"Add":          func(b *bench, t *testing.T, a api.Addr) { b.add(t, a, word(0)) },
		"Sub":          func(b *bench, t *testing.T, a api.Addr) { b.sub(t, a, word(0)) },
		"Sub, refused": func(b *bench, t *testing.T, a api.Addr) { b.sub(t, a, word(1)) },
		"SetNonce":     func(b *bench, t *testing.T, a api.Addr) { b.setNonce(t, a, 0) },
		"too great":    func(b *bench, t *testing.T, a api.Addr) { b.setNonce(t, a, 1<<64-1) },
		"SetCode":      func(b *bench, t *testing.T, a api.Addr) { b.setCode(t, a, "") },
		"too long":     func(b *bench, t *testing.T, a api.Addr) { b.setCode(t, a, strings.Repeat("c", 4097)) },
		"SetSlot":      func(b *bench, t *testing.T, a api.Addr) { b.setSlot(t, a, word(0), word(7)) },
		"a slot again": func(b *bench, t *testing.T, a api.Addr) { b.setSlot(t, a, word(1), b.m.now.at(a).slots[word(1)]) },
		"Destroy":      func(b *bench, t *testing.T, a api.Addr) { b.destroy(t, a) },
		"taken back": func(b *bench, t *testing.T, a api.Addr) {
			m := b.mark(t)
			b.destroy(t, a)
			b.revert(t, m)
		},
		"taken back behind Root": func(b *bench, t *testing.T, a api.Addr) {
			m := b.mark(t)
			b.x.Slot(a, word(0))
			b.m.put(a, b.m.now.at(a))
			b.root(t)
			b.revert(t, m)
		},
	}
	for what, call := range calls {
		for _, a := range []api.Addr{addr(0), addr(1), addr(2), addr(4), addr(7)} {
			t.Run(fmt.Sprint(what, " ", a[0]), func(t *testing.T) {
				t.Parallel()
				b := newBench(t)
				root := b.adopt(t, noneLedger())
				b.open(root)
				call(b, t, a)
				b.root(t)
				call(b, t, a)
				b.commit(t)
				b.open(root)
				call(b, t, a)
				other := b.commit(t)
				b.agrees(t)
				b.root(t)
				b.commit(t)
				b.open(other)
				b.agrees(t)
				b.open(root)
				b.agrees(t)
				b.root(t)
				b.agrees(t)
				b.commit(t)
				b.released(t)
			})
		}
	}
}

// TestDrawnForeign: worlds with accounts that are none, and calls, drawn; each account is met by what is called alone.
func TestDrawnForeign(t *testing.T) {
	t.Parallel()
	seeded(t, 60, func(t *testing.T, r *rand.Rand) {
		b := newBench(t)
		l := ledger{}
		for i := range 16 {
			x := account{balance: new(big.Int), slots: map[api.Word]api.Word{}}
			if r.Intn(3) == 0 {
				x.nonce = uint64(r.Intn(3))
			}
			for range r.Intn(5) {
				x.slots[word(r.Intn(6))] = word(1 + r.Intn(3))
			}
			l[addr(i)] = x
		}
		b.addrs = slices.SortedFunc(maps.Keys(l), func(a, b api.Addr) int { return strings.Compare(string(a[:]), string(b[:])) })
		root := b.adopt(t, l)
		b.open(root)
		for range 30 {
			a := b.addrs[r.Intn(len(b.addrs))]
			switch r.Intn(12) {
			case 0:
				if got := differs(b.x, b.m, a, b.words); got != "" {
					t.Fatal(got)
				}
			case 1:
				b.root(t)
			case 2:
				b.mark(t)
			case 3:
				b.revert(t, r.Intn(b.m.next+1))
			case 4:
				b.commit(t)
			case 5:
				b.open(root)
			default:
				b.change(t, r)
			}
		}
		b.commit(t)
		b.agrees(t)
		b.commit(t)
		b.released(t)
	})
}

// foreign: a state of a trie of accounts with these values.
func foreign(t *testing.T, values map[api.Addr]string, more ...api.Node) (*bench, *state.State) {
	t.Helper()
	b := newBench(t)
	m := map[string]string{}
	for a, v := range values {
		m[string(trie.Secure(a[:]))] = v
	}
	root, nodes := laid(m)
	if err := b.nodes.Insert(root, append(more, nodes...)); err != nil {
		t.Fatal(err)
	}
	return b, state.Open(root, b.nodes, b.store)
}

// TestNoRecordThere: values that are no records: each call on such an account is refused, and none on another one; it doesn't hinder Root.
func TestNoRecordThere(t *testing.T) {
	t.Parallel()
	good := record(1, big.NewInt(2), trie.Empty(), keccak.Sum())
	for _, bad := range []string{"x", good[:len(good)-1], good + "\x00", encoded(list(text(nil), text(nil), text(nil))), "\xC0", strings.Repeat("y", 1000)} {
		_, x := foreign(t, map[api.Addr]string{addr(1): bad, addr(2): good})
		for range 2 {
			refuses(t, x, addr(1), api.ErrTrieForm)
			if got, ok, err := x.Account(addr(2)); got.Balance != word(2) || !ok || err != nil {
				t.Errorf("P18.1: %v, %v, %v", got, ok, err)
			}
			if err := x.Add(addr(2), word(1)); err != nil {
				t.Error(err)
			}
			if _, err := x.Root(); err != nil {
				t.Error(err)
			}
			if err := x.Sub(addr(2), word(1)); err != nil {
				t.Error(err)
			}
		}
	}
}

// refuses: that each call on an account answers an error; also where another one would apply.
func refuses(t *testing.T, x *state.State, a api.Addr, want api.Errno) {
	t.Helper()
	record, ok, err := x.Account(a)
	if record != (api.Account{}) || ok || !is(err, want) {
		t.Errorf("P18.1: Account: %v, %v, %v, not %d", record, ok, err, want)
	}
	code, err := x.Code(a)
	if len(code) > 0 || !is(err, want) {
		t.Errorf("P18.1: Code: %x, %v, not %d", code, err, want)
	}
	v, err := x.Slot(a, word(1))
	if v != (api.Word{}) || !is(err, want) {
		t.Errorf("P18.1: Slot: %x, %v, not %d", v, err, want)
	}
	for what, err := range map[string]error{
		"Add": x.Add(a, word(1)), "Sub": x.Sub(a, word(1)), "Sub of most": x.Sub(a, most()), "SetNonce": x.SetNonce(a, 7), "SetNonce of most": x.SetNonce(a, 1<<64-1),
		"SetCode": x.SetCode(a, []byte("code")), "SetCode of most": x.SetCode(a, make([]byte, 5000)), "SetSlot": x.SetSlot(a, word(1), word(2)), "Destroy": x.Destroy(a),
	} {
		if !is(err, want) {
			t.Errorf("P18.1: %s: %v, not %d", what, err, want)
		}
	}
}

// TestOddRecords: accounts whose codes and storages nobody has, or are odd.
func TestOddRecords(t *testing.T) {
	t.Parallel()
	gone := record(0, new(big.Int), api.Hash{7}, api.Hash{8})
	b, x := foreign(t, map[api.Addr]string{addr(1): gone, addr(2): record(0, new(big.Int), api.Hash{7}, keccak.Sum())})
	if got, ok, err := x.Account(addr(1)); (got != api.Account{Root: api.Hash{7}, Code: api.Hash{8}}) || !ok || err != nil {
		t.Errorf("P18.2: %v, %v, %v", got, ok, err)
	}
	if got, err := x.Code(addr(1)); len(got) > 0 || !is(err, api.ErrTrieNode) {
		t.Errorf("P18.2: a code that isn't there: %q, %v", got, err)
	}
	for _, a := range []api.Addr{addr(1), addr(2)} {
		if got, err := x.Slot(a, word(1)); got != (api.Word{}) || !is(err, api.ErrTrieNode) {
			t.Errorf("P18.2: a slot that isn't there: %x, %v", got, err)
		}
		if err := x.SetSlot(a, word(1), word(1)); !is(err, api.ErrTrieNode) {
			t.Errorf("P18.3: %v", err)
		}
	}
	// It isn't met by what was refused.
	if root, err := x.Root(); root == trie.Empty() || err != nil {
		t.Errorf("P18.5: %x, %v", root, err)
	}
	if _, l, err := x.Commit(); len(l) > 0 || err != nil {
		t.Errorf("P18.5: %d, %v", len(l), err)
	}
	// No node is needed to tell that there are slots.
	if got, ok, err := x.Account(addr(2)); (got != api.Account{Root: api.Hash{7}, Code: keccak.Sum()}) || ok || err != nil {
		t.Errorf("P18.2: %v, %v, %v", got, ok, err)
	}
	if _, err := x.Root(); err != nil {
		t.Errorf("P18.5: %v", err)
	}
	if _, _, err := x.Commit(); !is(err, api.ErrTrieNode) { // which slots are taken away can't be told
		t.Errorf("P18.5: %v", err)
	}
	if l := b.nodes.Dirty(); len(l) == 0 {
		t.Error("nothing is dirty")
	}
	// A code that is set is told, and kept, though its hash isn't new.
	b, x = foreign(t, map[api.Addr]string{addr(1): record(1, new(big.Int), trie.Empty(), keccak.Sum([]byte("code")))})
	if err := x.SetCode(addr(1), []byte("code")); err != nil {
		t.Fatal(err)
	}
	if got, err := x.Code(addr(1)); string(got) != "code" || err != nil {
		t.Errorf("P18.3: %q, %v", got, err)
	}
	if _, l, err := x.Commit(); len(l) > 0 || err != nil {
		t.Errorf("P18.5: %d, %v", len(l), err)
	}
	if got, err := x.Code(addr(1)); string(got) != "code" || err != nil || b.store.Last() != 1 {
		t.Errorf("P18.5: %q, %v", got, err)
	}
}

// TestOddSlots: values that are no words, keys of other lengths: what is taken away with the account is told of keys of 32 bytes alone.
func TestOddSlots(t *testing.T) {
	t.Parallel()
	key := func(n int) string { w := word(n); return string(trie.Secure(w[:])) }
	slots := map[string]string{key(1): "\x05", key(2): "\x80", key(3): "\x00", key(4): "\xC0", key(5): "\xA1" + strings.Repeat("x", 33), key(6): "\x81\x05", key(7): "\x82\x00\x05", key(8): strings.Repeat("v", 40)}
	short := maps.Clone(slots)
	short["key"], short[key(1)+"more"], short[""] = "value", "value", "value"
	for _, m := range []map[string]string{slots, short} {
		storage, below := laid(m)
		_, x := foreign(t, map[api.Addr]string{addr(1): record(1, new(big.Int), storage, keccak.Sum()), addr(2): record(0, new(big.Int), storage, keccak.Sum())}, below...)
		for k := range 10 {
			want, number := api.OK, api.Word{}
			switch {
			case k == 1:
				number = word(5)
			case k > 2 && k < 9:
				want = api.ErrTrieForm
			}
			if got, err := x.Slot(addr(1), word(k)); got != number || !is(err, want) {
				t.Errorf("P18.2: slot %d: %x, %v", k, got, err)
			}
			if err := x.SetSlot(addr(1), word(k), number); !is(err, want) {
				t.Errorf("P18.3: slot %d: %v", k, err)
			}
		}
		if got, ok, err := x.Account(addr(2)); got.Root != storage || ok || err != nil {
			t.Errorf("P18.2: %v, %v, %v", got, ok, err)
		}
		if err := x.Destroy(addr(1)); err != nil {
			t.Fatal(err)
		}
		root, l, err := x.Commit()
		var want []api.KV
		for i := 1; i < 3; i++ {
			a := addr(i)
			want = append(want, api.KV{Key: trie.Secure(a[:])})
			for _, k := range slices.Sorted(maps.Keys(slots)) {
				want = append(want, api.KV{Key: append(trie.Secure(a[:]), k...)})
			}
		}
		slices.SortFunc(want, func(x, y api.KV) int { return strings.Compare(string(x.Key), string(y.Key)) })
		if root != trie.Empty() || !alike(l, want) || err != nil {
			t.Errorf("P18.5: %x, %s, %v", root, say(l), err)
		}
	}
}

// TestManyPaths: a storage of a few nodes that make very many paths, none of which has a key of 32 bytes, is gone through.
func TestManyPaths(t *testing.T) {
	t.Parallel()
	for _, length := range []int{62, 66} {
		for _, isWhole := range []bool{true, false} {
			x := leaf(strings.Repeat("\x07", length-50), "value")
			var below []api.Node
			for range 50 {
				n := nodeOf(x)
				below = append(below, n)
				x = list(append(slices.Repeat([]api.Item{hashed(n.Hash)}, 16), text(nil))...)
			}
			top := nodeOf(x)
			if below = append(below, top); !isWhole {
				below = below[1:]
			}
			_, s := foreign(t, map[api.Addr]string{addr(1): record(1, new(big.Int), top.Hash, keccak.Sum())}, below...)
			if err := s.Destroy(addr(1)); err != nil {
				t.Fatal(err)
			}
			_, l, err := s.Commit()
			if isWhole && (len(l) != 1 || err != nil) || !isWhole && !is(err, api.ErrTrieNode) {
				t.Errorf("P18.5: %d changes, %v", len(l), err)
			}
		}
	}
}

// taken: what is taken away with an account of a storage; the nodes are handed over by the hashes that they are to have.
func taken(t *testing.T, storage api.Hash, below ...api.Node) ([]string, error) {
	t.Helper()
	a := addr(1)
	b, x := foreign(t, map[api.Addr]string{a: record(1, new(big.Int), storage, keccak.Sum())})
	for _, n := range below {
		b.restore(t, n)
	}
	if err := x.Destroy(a); err != nil {
		t.Fatal(err)
	}
	_, l, err := x.Commit()
	var keys []string
	for _, c := range l {
		if !strings.HasPrefix(string(c.Key), string(trie.Secure(a[:]))) || len(c.Value) > 0 {
			t.Errorf("P18.5: %s", say(l))
		}
		if len(c.Key) > 32 {
			keys = append(keys, string(c.Key[32:]))
		}
	}
	return keys, err
}

// TestDepths: a node that stands at several depths, nodes at the last depth, with a value and without, and below it.
func TestDepths(t *testing.T) {
	t.Parallel()
	shared := nodeOf(leaf(strings.Repeat("\x05", 62), "value"))
	twice := nodeOf(fork(map[int]api.Item{0: hashed(shared.Hash), 1: hashed(shared.Hash)}))
	top := nodeOf(fork(map[int]api.Item{0: hashed(shared.Hash), 1: hashed(twice.Hash)}))
	keys, err := taken(t, top.Hash, shared, twice, top)
	if want := []string{"\x10" + strings.Repeat("\x55", 31), "\x11" + strings.Repeat("\x55", 31)}; !slices.Equal(keys, want) || err != nil {
		t.Errorf("P18.5: %x, %v", keys, err)
	}
	gone := hashed(api.Hash{0xFF})
	path := strings.Repeat("\x01", 64)
	end := nodeOf(fork(map[int]api.Item{3: gone, 5: gone}))
	whole := nodeOf(fork(map[int]api.Item{3: gone, 16: text([]byte("value"))}))
	for i, x := range []struct {
		root api.Item
		keys int
		want api.Errno
	}{
		{way(path, hashed(end.Hash)), 0, api.OK},
		{way(path, hashed(whole.Hash)), 1, api.OK},
		{way(path, gone), 0, api.ErrTrieNode},
		{way(path[1:], hashed(end.Hash)), 0, api.ErrTrieNode},
		{way(path+"\x01", gone), 0, api.OK},
		{leaf(path, "value"), 1, api.OK},
		{leaf(path[1:], "value"), 0, api.OK},
		{leaf(path+"\x01\x01", "value"), 0, api.OK},
	} {
		root := nodeOf(x.root)
		if keys, err := taken(t, root.Hash, end, whole, root); len(keys) != x.keys || !is(err, x.want) {
			t.Errorf("P18.5: %d: %x, %v", i, keys, err)
		}
	}
}

// TestRound: nodes under hashes that aren't their own, and lead to themselves: going through them ends, without entries, or with an error.
func TestRound(t *testing.T) {
	t.Parallel()
	h := api.Hash{1}
	round := api.Node{Hash: h, Bytes: []byte(encoded(fork(map[int]api.Item{0: hashed(h), 1: hashed(h), 15: hashed(h)})))}
	if keys, err := taken(t, h, round); len(keys) > 0 || err != nil {
		t.Errorf("P18.5: %x, %v", keys, err)
	}
	// Behind an error what is there in great numbers isn't gathered.
	many := leaf(strings.Repeat("\x07", 13), strings.Repeat("v", 40))
	var below []api.Node
	for range 50 {
		n := nodeOf(many)
		below = append(below, n)
		many = list(append(slices.Repeat([]api.Item{hashed(n.Hash)}, 16), text(nil))...)
	}
	n := nodeOf(many)
	top := nodeOf(fork(map[int]api.Item{0: hashed(api.Hash{7}), 1: hashed(n.Hash)}))
	if keys, err := taken(t, top.Hash, append(below, n, top)...); len(keys) > 0 || !is(err, api.ErrTrieNode) {
		t.Errorf("P18.5: %d, %v", len(keys), err)
	}
}
