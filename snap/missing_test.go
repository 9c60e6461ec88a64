package snap_test

import (
	"maps"
	"math/rand"
	"slices"
	"strings"
	"testing"

	"moraine/api"
	"moraine/snap"
	"moraine/trie"
)

// TestMissing: nodes that aren't there, or are none, here and there: the model's error, and nothing is generated; when they are there it goes on.
func TestMissing(t *testing.T) {
	t.Parallel()
	seeded(t, 60, func(t *testing.T, r *rand.Rand) {
		b := newBench(t, options())
		l := drawLedger(r).changed(r).changed(r)
		root, other := b.lay(t, l), b.lay(t, l.changed(r))
		whole := maps.Clone(b.have)
		hashes := slices.SortedFunc(maps.Keys(whole), func(x, y api.Hash) int { return strings.Compare(string(x[:]), string(y[:])) })
		b.reset(t, root)
		for range 80 {
			h := hashes[r.Intn(len(hashes))]
			switch r.Intn(9) {
			case 0, 1:
				b.lose(t, h)
			case 2:
				b.put(t, api.Node{Hash: h, Bytes: []byte([]string{"", "\xC0", "\x80", whole[h] + "\x00", whole[h][:len(whole[h])-1]}[r.Intn(5)])})
			case 3, 4, 5:
				b.put(t, api.Node{Hash: h, Bytes: []byte(whole[h])})
			case 6:
				b.generate(t, r.Intn(8))
			case 7:
				b.generate(t, 1)
			case 8:
				switch r.Intn(6) {
				case 0:
					b.reset(t, root)
				case 1:
					one := b.m.root
					b.update(t, one, other, changes(b.have.flat(one), b.have.flat(other)))
					b.flatten(t, other, 0)
				case 2:
					b.reopen(t)
				}
			}
			b.agrees(t)
		}
		for h, code := range whole {
			b.put(t, api.Node{Hash: h, Bytes: []byte(code)})
		}
		b.generate(t, 1000)
		b.agrees(t)
		b.recorded(t)
		if !b.x.Done() {
			t.Error("P17.2: it isn't done")
		}
	})
}

// TestWhichError: what is told of a root's node, of one further down, of a storage's; when it isn't there, and when it is none.
func TestWhichError(t *testing.T) {
	t.Parallel()
	key := func(b byte) string { return strings.Repeat(string(rune(b)), 32) }
	storage, below := laid(map[string]string{key(0x10): strings.Repeat("v", 40), key(0x20): strings.Repeat("w", 40)})
	one, _ := laid(nil)
	accounts := map[string]string{key(0x00): record(1, one), key(0x30): record(2, storage), key(0x70): record(3, storage)}
	root, nodes := laid(accounts)
	whole := append(slices.Clone(nodes), below...)
	const entries = 3 + 4
	for i, n := range whole {
		for _, hurt := range []bool{false, true} {
			b := newBench(t, options())
			b.put(t, whole...)
			want := api.ErrTrieNode
			if b.lose(t, n.Hash); hurt {
				want = api.ErrTrieForm
				b.put(t, api.Node{Hash: n.Hash, Bytes: []byte("none")})
			}
			b.seek(slices.Collect(maps.Keys(accounts))...)
			b.reset(t, root)
			for _, all := range []int{entries + 1, entries, entries - 1, 1 << 40} {
				if done, err := b.x.Generate(b.nodes, all); done || !is(err, want) {
					t.Errorf("P17.2: node %d: %v, %v", i, done, err)
				}
				b.agrees(t)
			}
			if err := b.x.Reset(root); err != nil || len(recordsIn(t, b.store)) > 0 {
				t.Errorf("P17.2: node %d: %v", i, err)
			}
			for range 2 * entries { // as far as it can
				b.generate(t, 1)
			}
			b.agrees(t)
			b.put(t, whole...)
			for !b.x.Done() {
				b.generate(t, 2)
				b.agrees(t)
			}
			b.recorded(t)
			if got := len(recordsIn(t, b.store)); got != entries {
				t.Errorf("P17.2: %d entries", got)
			}
		}
	}
}

// TestNotLookedAt: nodes whose keys were all generated already needn't be there any more.
func TestNotLookedAt(t *testing.T) {
	t.Parallel()
	b := newBench(t, options())
	l := ledger{}
	for i := range 16 {
		h := trie.Secure([]byte{byte(i)})
		l[string(h)] = account{slots: map[string]string{string(h): strings.Repeat("v", 40), string(trie.Secure(h)): strings.Repeat("w", 40)}}
	}
	root := b.lay(t, l)
	b.reset(t, root)
	b.generate(t, 47)
	last := slices.Sorted(maps.Keys(b.have.flat(root)))[47]
	needed := map[api.Hash]bool{}
	probe := trie.Open(root, func(h api.Hash) ([]byte, bool) {
		needed[h] = true
		code, ok := b.have[h]
		return []byte(code), ok
	})
	value, ok, e := probe.Get([]byte(last[:32]))
	if !ok || e != api.OK {
		t.Fatal(e)
	}
	storage, ok := storageOf(string(value))
	if !ok {
		t.Fatal("no record")
	}
	probe = trie.Open(storage, func(h api.Hash) ([]byte, bool) {
		needed[h] = true
		code, ok := b.have[h]
		return []byte(code), ok
	})
	if _, ok, e := probe.Get([]byte(last[32:])); !ok || e != api.OK {
		t.Fatal(e)
	}
	for h := range maps.Clone(b.have) {
		if !needed[h] {
			b.lose(t, h)
		}
	}
	b.generate(t, 1)
	b.agrees(t)
	if !b.x.Done() {
		t.Error("P17.2: it isn't done")
	}
}

// TestHurtRecords: what no tree saved: an Open tells an error, or a tree that can be asked, and doesn't panic.
func TestHurtRecords(t *testing.T) {
	t.Parallel()
	b := grown(t)
	b.save(t)
	l, err := b.store.Range([]byte("m"), []byte("n"), b.store.Last(), 100)
	if err != nil || len(l) != 2 {
		t.Fatalf("%d keys, %v", len(l), err)
	}
	refused, opened := 0, 0
	try := func(op api.Op) {
		t.Helper()
		if err := b.store.Write([]api.Op{op}); err != nil {
			t.Fatal(err)
		}
		x, err := snap.Open(b.store)
		switch {
		case err == nil:
			opened++
			for _, root := range x.Roots() {
				told(x, root, b.keys[len(b.keys)-1])
			}
		case x != nil || !is(err, api.ErrRawForm):
			t.Fatalf("%v, %v", x, err)
		default:
			refused++
		}
	}
	for i, x := range l {
		try(api.Op{Key: x.Key, Value: append(slices.Clone(x.Value), 0)})
		try(api.Op{Key: x.Key, Value: append(slices.Clone(x.Value), x.Value...)})
		was := opened
		for at := range x.Value {
			if i == 0 || at%5 == 0 || at < 400 {
				try(api.Op{Key: x.Key, Value: x.Value[:at]})
			}
		}
		if i == 1 && opened-was > len(b.m.layers) {
			t.Errorf("%d were opened that end too early", opened-was)
		}
		was = opened
		for at := 0; at < len(x.Value); at += 1 + len(x.Value)/300 {
			for _, bit := range []byte{1, 0x80, 0xFF} {
				hurt := slices.Clone(x.Value)
				hurt[at] ^= bit
				try(api.Op{Key: x.Key, Value: hurt})
			}
			if i == 1 && at < 64 && opened > was {
				t.Errorf("one with another root was opened")
			}
		}
		try(api.Op{Key: x.Key, Value: x.Value})
	}
	if refused < 500 || opened < 10 {
		t.Errorf("%d were refused, %d opened", refused, opened)
	}
	was := refused
	if try(api.Op{Delete: true, Key: l[1].Key}); refused == was {
		t.Error("a row without its chunk was opened")
	}
}
