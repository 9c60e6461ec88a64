package snap_test

import (
	"fmt"
	"maps"
	"math"
	"math/rand"
	"slices"
	"strings"
	"testing"

	"moraine/api"
	"moraine/lsm"
	"moraine/rawdb"
	"moraine/snap"
	"moraine/trie"
	"moraine/triedb"
)

// TestAlike: drawn calls, whatever is done to the store in between: all that a tree tells is the model's.
func TestAlike(t *testing.T) {
	t.Parallel()
	seeded(t, 60, func(t *testing.T, r *rand.Rand) {
		b := newBench(t, options())
		b.agrees(t)
		ledgers := []ledger{{}}
		roots := []api.Hash{trie.Empty()}
		for range 6 {
			l := ledgers[r.Intn(len(ledgers))].changed(r)
			if r.Intn(4) == 0 {
				l = drawLedger(r)
			}
			ledgers, roots = append(ledgers, l), append(roots, b.lay(t, l))
		}
		roots = append(roots, api.Hash{1}, api.Hash{2}, api.Hash{3}, api.Hash{4})
		for range 60 {
			b.tended(t, r)
			one, two := roots[r.Intn(len(roots))], roots[r.Intn(len(roots))]
			if told := b.x.Roots(); r.Intn(3) > 0 {
				one = told[r.Intn(len(told))]
			}
			switch r.Intn(13) {
			case 0:
				b.reset(t, two)
			case 1, 2, 3:
				b.generate(t, r.Intn(7)-1)
			case 4:
				b.generate(t, 1000)
			case 5, 6:
				b.update(t, one, two, changes(b.have.flat(one), b.have.flat(two)))
			case 7, 8:
				b.update(t, one, two, b.drawChanges(r))
			case 9, 10:
				b.flatten(t, one, r.Intn(6)-1)
			case 11:
				b.save(t)
			case 12:
				if r.Intn(2) == 0 {
					b.d.Restart(crash(r, r.Intn(crashKinds)))
				}
				b.reopen(t)
			}
			b.agrees(t)
		}
		b.recorded(t)
	})
}

// someLedger: a ledger with accounts, slots, values that are no records, and keys of other lengths.
func someLedger() ledger {
	l := ledger{"short": {value: "s"}, strings.Repeat("a", 33): {value: "l"}}
	for i := range 6 {
		slots := map[string]string{}
		for k := range i {
			slots[strings.Repeat(string(rune('s'+k)), 32)] = fmt.Sprint("slot", i, k)
		}
		slots["short"] = "s"
		slots[strings.Repeat("s", 40)] = "l"
		l[strings.Repeat(string(rune('b'+i)), 32)] = account{slots: slots}
	}
	l[strings.Repeat("a", 32)] = account{value: "value"}
	return l
}

// otherLedger: someLedger, changed in all ways.
func otherLedger() ledger {
	l := someLedger()
	delete(l, strings.Repeat("c", 32))
	l[strings.Repeat("d", 32)] = account{slots: map[string]string{strings.Repeat("a", 32): "new"}}
	l[strings.Repeat("Z", 32)] = account{value: "new, too"}
	l[strings.Repeat("z", 32)] = account{slots: map[string]string{strings.Repeat("a", 32): "last"}}
	return l
}

// TestFresh: a store in which nothing ever was: P17.1.
func TestFresh(t *testing.T) {
	t.Parallel()
	b := newBench(t, options())
	for range 2 {
		b.agrees(t)
		if !b.x.Done() || fmt.Sprint(b.x.Roots()) != fmt.Sprint([]api.Hash{trie.Empty()}) {
			t.Fatalf("P17.1: %v, %x", b.x.Done(), b.x.Roots())
		}
		b.open(t)
	}
	if b.store.Last() != 0 {
		t.Error("Open writes")
	}
	for _, n := range []int{-1, 0, 1, 100} {
		b.generate(t, n)
	}
	b.flatten(t, trie.Empty(), 0)
	b.agrees(t)
	b.update(t, trie.Empty(), api.Hash{1}, b.drawChanges(rand.New(rand.NewSource(1))))
	b.agrees(t)
	b.flatten(t, api.Hash{1}, 0)
	b.agrees(t)
	b.reopen(t)
	b.agrees(t)
	b.save(t)
	b.reopen(t)
	b.agrees(t)
}

// TestExample: what stands at the chapter's end.
func TestExample(t *testing.T) {
	t.Parallel()
	b := newBench(t, options())
	one, two := strings.Repeat("1", 32), strings.Repeat("2", 32)
	a := b.lay(t, ledger{one: {slots: nil}, two: {value: "second"}})
	b.reset(t, a)
	if done, err := b.x.Generate(b.nodes, 1); done || err != nil || b.x.Done() {
		t.Errorf("P17.2: %v, %v", done, err)
	}
	if got := told(b.x, a, one); got != fmt.Sprintf("%q true known", record(0, trie.Empty())) {
		t.Errorf("P17.4: %s", got)
	}
	if got := told(b.x, a, two); got != "unknown" {
		t.Errorf("P17.4: %s", got)
	}
	if err := b.x.Update(a, api.Hash{1}, []api.KV{{Key: []byte(two), Value: []byte("changed")}}); err != nil {
		t.Errorf("P17.3: %v", err)
	}
	if got := told(b.x, api.Hash{1}, two) + ", " + told(b.x, a, two); got != `"changed" true known, unknown` {
		t.Errorf("P17.4: %s", got)
	}
	if done, err := b.x.Generate(b.nodes, 1); !done || err != nil || !b.x.Done() || told(b.x, a, two) != `"second" true known` {
		t.Errorf("P17.7: %v, %v", done, err)
	}
}

// TestStepByStep: entries are generated in order, so many at once, and go on behind an Open: at each step it is known what stands ahead of the next one.
func TestStepByStep(t *testing.T) {
	t.Parallel()
	for step := 1; step < 8; step++ {
		for _, tdbIsNew := range []bool{false, true} {
			b := newBench(t, options())
			root := b.lay(t, someLedger())
			flat := b.have.flat(root)
			keys := slices.Sorted(maps.Keys(flat))
			if len(keys) != 7+15 || !flatOrder(keys) {
				t.Fatalf("%d keys", len(keys))
			}
			b.reset(t, root)
			b.agrees(t)
			b.recorded(t)
			for count := step; ; count += step {
				for _, n := range []int{0, -1, math.MinInt, step} {
					b.generate(t, n)
				}
				b.agrees(t)
				b.recorded(t)
				if got := recordsIn(t, b.store); len(got) != min(count, len(keys)) || b.x.Done() != (count >= len(keys)) {
					t.Fatalf("P17.2: %d entries behind %d, %v", len(got), count, b.x.Done())
				}
				for i, key := range keys {
					want := "unknown"
					if i < count {
						want = fmt.Sprintf("%q true known", flat[key])
					}
					if got := told(b.x, root, key); got != want {
						t.Fatalf("P17.4: %s, not %s", got, want)
					}
				}
				if b.x.Done() {
					break
				}
				if tdbIsNew {
					b.reopen(t)
					b.agrees(t)
				}
			}
			if b.knowsTruly(t, root, flat) != len(b.keys)-6 {
				t.Errorf("P17.7: not all keys are known")
			}
			b.generate(t, 1)
			b.generate(t, 0)
			b.agrees(t)
		}
	}
}

// TestRecords: what stands under layer 13's keys, and that nothing else of the store is touched.
func TestRecords(t *testing.T) {
	t.Parallel()
	b := newBench(t, options())
	root := b.lay(t, someLedger())
	foreign := map[string]string{"a": "1", "o": "2", "ab": "3", "a" + strings.Repeat("h", 33): "4", "o" + strings.Repeat("h", 32): "5", "b": "6", "p": "7", "msnapshot": "8", "msnap\x00": "9", "m": "10", "mtsnap": "11", "msnap" + strings.Repeat("a", 27): "12", "msnap" + strings.Repeat("a", 29): "13"}
	var batch []api.Op
	for key, value := range foreign {
		batch = append(batch, api.Op{Key: []byte(key), Value: []byte(value)})
	}
	for h, code := range b.have {
		foreign[string(rawdb.NodeKey(h))] = code
	}
	if err := b.store.Write(batch); err != nil {
		t.Fatal(err)
	}
	others := func() {
		t.Helper()
		for key, value := range foreign {
			if got, ok, err := b.store.Get([]byte(key)); string(got) != value || !ok || err != nil {
				t.Fatalf("%q: %q, %v, %v", key, got, ok, err)
			}
		}
	}
	b.reset(t, root)
	others()
	b.generate(t, 10)
	b.update(t, root, api.Hash{1}, []api.KV{{Key: []byte(strings.Repeat("a", 32))}})
	b.save(t)
	b.flatten(t, api.Hash{1}, 0)
	others()
	b.recorded(t)
	account, slot := api.Hash([]byte(strings.Repeat("c", 32))), api.Hash([]byte(strings.Repeat("s", 32)))
	got, ok, err := b.store.Get(rawdb.AccountKey(account))
	if string(got) != b.m.records[string(account[:])] || !ok || err != nil {
		t.Errorf("P17.1: %q, %v, %v", got, ok, err)
	}
	got, ok, err = b.store.Get(rawdb.SlotKey(account, slot))
	if string(got) != "slot1 0" || !ok || err != nil {
		t.Errorf("P17.1: %q, %v, %v", got, ok, err)
	}
	b.reset(t, root)
	b.agrees(t)
	b.recorded(t)
	others()
	// Beside what was there ahead of the tree there is nothing but its state.
	l, err := b.store.Range(nil, nil, b.store.Last(), api.MaxBatch)
	if err != nil || len(l) != len(foreign)+1 {
		t.Errorf("%d keys, not %d", len(l), len(foreign)+1)
	}
}

// TestReset: whatever there was: one disk layer, of which nothing is generated: P17.2.
func TestReset(t *testing.T) {
	t.Parallel()
	for at := range 4 {
		for _, again := range []bool{false, true} {
			b := newBench(t, options())
			one, two := b.lay(t, someLedger()), b.lay(t, otherLedger())
			b.reset(t, one)
			b.generate(t, at*10)
			b.update(t, one, two, changes(b.have.flat(one), b.have.flat(two)))
			b.update(t, two, api.Hash{1}, nil)
			if at%2 == 0 {
				b.save(t)
			}
			for _, root := range []api.Hash{two, one, trie.Empty(), {7}} {
				b.reset(t, root)
				b.recorded(t)
				if again {
					b.reopen(t)
				}
				b.agrees(t)
				if b.x.Done() || len(b.x.Roots()) != 1 || len(recordsIn(t, b.store)) > 0 {
					t.Fatal("P17.2: Reset")
				}
				b.generate(t, 100)
				b.agrees(t)
			}
		}
	}
}

// TestUpdate: which error is told first, and that a layer that was refused isn't there: P17.3.
func TestUpdate(t *testing.T) {
	t.Parallel()
	b := newBench(t, options())
	root := b.lay(t, someLedger())
	b.reset(t, root)
	good, bad := []api.KV{{Key: []byte(b.keys[1])}}, []api.KV{{Key: []byte(strings.Repeat("k", 32))}, {Key: []byte("x")}}
	good[0].Key = []byte(strings.Repeat("k", 64))
	for _, x := range []struct {
		parent, root api.Hash
		changes      []api.KV
		want         api.Errno
	}{
		{api.Hash{1}, root, bad, api.ErrSnapRoot},
		{api.Hash{1}, api.Hash{1}, good, api.ErrSnapRoot},
		{root, root, bad, api.ErrSnapTwice},
		{root, api.Hash{1}, bad, api.ErrRawForm},
		{root, api.Hash{1}, good, api.OK},
		{root, api.Hash{1}, good, api.ErrSnapTwice},
		{api.Hash{1}, root, bad, api.ErrSnapTwice},
		{api.Hash{1}, api.Hash{1}, good, api.ErrSnapTwice},
		{api.Hash{1}, api.Hash{2}, bad, api.ErrRawForm},
		{api.Hash{2}, api.Hash{3}, good, api.ErrSnapRoot},
		{api.Hash{1}, api.Hash{2}, nil, api.OK},
		{api.Hash{1}, api.Hash{3}, good, api.OK},
		{trie.Empty(), api.Hash{4}, nil, api.ErrSnapRoot},
		{api.Hash{3}, trie.Empty(), nil, api.OK},
		{trie.Empty(), api.Hash{}, nil, api.OK},
	} {
		if err := b.x.Update(x.parent, x.root, x.changes); !is(err, x.want) {
			t.Errorf("P17.3: %x above %x: %v, not %v", x.root[:1], x.parent[:1], err, x.want)
		}
		b.m.update(x.parent, x.root, x.changes)
		b.agrees(t)
	}
	for size := range 130 {
		want := api.ErrRawForm
		if size == 32 || size == 64 {
			want = api.OK
		}
		if err := b.x.Update(root, api.Hash{5, byte(size)}, []api.KV{{Key: make([]byte, size)}}); !is(err, want) {
			t.Errorf("P17.3: a key of %d bytes: %v", size, err)
		}
		if _, _, _, err := b.x.Read(root, make([]byte, size)); !is(err, want) {
			t.Errorf("P17.4: a key of %d bytes: %v", size, err)
		}
	}
}

// TestChangesOfOneKey: of two changes the last one; an empty value takes away.
func TestChangesOfOneKey(t *testing.T) {
	t.Parallel()
	key := []byte(strings.Repeat("k", 32))
	for _, x := range []struct {
		values []string
		want   string
	}{
		{[]string{"a"}, `"a" true known`}, {[]string{"a", "b"}, `"b" true known`}, {[]string{"a", ""}, `"" false known`},
		{[]string{"", "a"}, `"a" true known`}, {[]string{"a", "b", "a"}, `"a" true known`}, {[]string{""}, `"" false known`},
	} {
		b := newBench(t, options())
		var l []api.KV
		for _, value := range x.values {
			l = append(l, api.KV{Key: key, Value: []byte(value)})
		}
		b.update(t, trie.Empty(), api.Hash{1}, []api.KV{{Key: key, Value: []byte("first")}})
		b.update(t, api.Hash{1}, api.Hash{2}, l)
		for range 2 {
			if got := told(b.x, api.Hash{2}, string(key)); got != x.want {
				t.Errorf("P17.3: %q: %s", x.values, got)
			}
			b.flatten(t, api.Hash{2}, 0)
			b.recorded(t)
		}
	}
}

// TestOtherStores: nodes may be dirty, or stand in another store than the records.
func TestOtherStores(t *testing.T) {
	t.Parallel()
	b := newBench(t, options())
	other := newBench(t, options())
	root, nodes := someLedger().lay()
	if err := other.nodes.Insert(root, nodes); err != nil {
		t.Fatal(err)
	}
	for _, n := range nodes {
		b.have[n.Hash] = string(n.Bytes)
	}
	b.seek(slices.Collect(maps.Keys(b.have.flat(root)))...)
	b.reset(t, root)
	if _, err := b.x.Generate(b.nodes, 1); !is(err, api.ErrTrieNode) {
		t.Errorf("P17.2: %v", err)
	}
	b.nodes = other.nodes
	b.generate(t, 9)
	b.agrees(t)
	if err := other.nodes.Commit(root); err != nil {
		t.Fatal(err)
	}
	b.generate(t, 9)
	b.agrees(t)
	if err := other.store.Close(); err != nil {
		t.Fatal(err)
	}
	for range 2 {
		if done, err := b.x.Generate(b.nodes, 9); done || !is(err, api.ErrLsmClosed) {
			t.Errorf("P17.2: %v, %v", done, err)
		}
		b.agrees(t)
	}
	store, err := lsm.Open(other.d, options())
	if err != nil {
		t.Fatal(err)
	}
	b.nodes = triedb.New(store)
	b.generate(t, 9)
	b.agrees(t)
	b.recorded(t)
}

// TestClosed: a store that is closed: what needs it answers its error, and changes nothing; the rest goes on.
func TestClosed(t *testing.T) {
	t.Parallel()
	b := newBench(t, options())
	one, two := b.lay(t, someLedger()), b.lay(t, otherLedger())
	b.reset(t, one)
	b.generate(t, 5)
	b.update(t, one, two, changes(b.have.flat(one), b.have.flat(two)))
	if err := b.store.Close(); err != nil {
		t.Fatal(err)
	}
	roots := fmt.Sprint(b.x.Roots())
	for what, call := range map[string]func() error{
		"Open":     func() error { _, err := snap.Open(b.store); return err },
		"Reset":    func() error { return b.x.Reset(one) },
		"Generate": func() error { _, err := b.x.Generate(b.nodes, 1); return err },
		"Flatten":  func() error { return b.x.Flatten(two, 0) },
		"Save":     b.x.Save,
		"Read":     func() error { _, _, _, err := b.x.Read(one, []byte(strings.Repeat("a", 32))); return err },
	} {
		if err := call(); !is(err, api.ErrLsmClosed) {
			t.Errorf("%s: %v", what, err)
		}
		if x, err := snap.Open(b.store); x != nil || !is(err, api.ErrLsmClosed) {
			t.Errorf("Open: %v, %v", x, err)
		}
		if fmt.Sprint(b.x.Roots()) != roots || b.x.Done() {
			t.Errorf("%s changed something", what)
		}
	}
	if got := told(b.x, one, strings.Repeat("a", 32)); got != fmt.Sprint(api.ErrLsmClosed) {
		t.Errorf("Read: %s", got)
	}
	if done, err := b.x.Generate(b.nodes, 0); done || err != nil {
		t.Errorf("Generate of none: %v, %v", done, err)
	}
	if err := b.x.Flatten(two, 1); err != nil {
		t.Errorf("Flatten of nothing: %v", err)
	}
	for key, want := range map[string]string{strings.Repeat("Z", 32): `"new, too" true known`, strings.Repeat("c", 32): `"" false known`, strings.Repeat("g", 32): "unknown", "short": fmt.Sprint(api.ErrRawForm)} {
		if got := told(b.x, two, key); got != want {
			t.Errorf("Read of %s: %s", key, got)
		}
	}
	if got := told(b.x, api.Hash{1}, strings.Repeat("a", 32)); got != fmt.Sprint(api.ErrSnapRoot) {
		t.Errorf("Read: %s", got)
	}
	if err := b.x.Update(two, api.Hash{1}, nil); err != nil {
		t.Errorf("Update: %v", err)
	}
}
