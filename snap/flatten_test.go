package snap_test

import (
	"fmt"
	"math"
	"slices"
	"strings"
	"testing"

	"moraine/api"
)

// rowOf: roots by numbers.
func rowOf(numbers ...byte) []api.Hash {
	var l []api.Hash
	for _, n := range numbers {
		l = append(l, api.Hash{n})
	}
	return l
}

// grown: a bench with a disk layer of root 10, done, and above it: 11 to 14 in a row, 21 and 22 above 11, 31 above 10, 41 above 13.
func grown(t *testing.T) *bench {
	t.Helper()
	b := newBench(t, options())
	above := [][2]byte{{0, 10}, {10, 11}, {11, 12}, {11, 21}, {10, 31}, {12, 13}, {21, 22}, {13, 14}, {13, 41}}
	for i, x := range above {
		parent := api.Hash{x[0]}
		if i == 0 {
			parent = b.x.Roots()[0]
		}
		var changes []api.KV
		for _, key := range []string{"same", fmt.Sprint("of", x[1]), fmt.Sprint("of", x[0])} {
			value := fmt.Sprint(key, " of ", x[1])
			if key == fmt.Sprint("of", x[0]) && x[1]%2 == 0 {
				value = ""
			}
			whole := key + strings.Repeat("_", 32-len(key))
			changes = append(changes, api.KV{Key: []byte(whole), Value: []byte(value)}, api.KV{Key: []byte(whole + whole), Value: []byte(value)})
			b.keys = append(b.keys, whole, whole+whole)
		}
		b.update(t, parent, api.Hash{x[1]}, changes)
		if i == 0 {
			b.flatten(t, api.Hash{10}, 0)
		}
	}
	return b
}

// TestFlatten: which layers become one with the disk layer, and which are gone: P17.5.
func TestFlatten(t *testing.T) {
	t.Parallel()
	for _, x := range []struct {
		root   byte
		layers int
		want   []api.Hash
	}{
		{14, 0, rowOf(14)},
		{14, -1, rowOf(14)},
		{14, math.MinInt, rowOf(14)},
		{14, 1, rowOf(13, 14, 41)},
		{14, 2, rowOf(12, 13, 14, 41)},
		{14, 3, rowOf(11, 12, 21, 13, 22, 14, 41)},
		{14, 4, rowOf(10, 11, 12, 21, 31, 13, 22, 14, 41)},
		{14, 5, rowOf(10, 11, 12, 21, 31, 13, 22, 14, 41)},
		{14, math.MaxInt, rowOf(10, 11, 12, 21, 31, 13, 22, 14, 41)},
		{13, 0, rowOf(13, 14, 41)},
		{12, 0, rowOf(12, 13, 14, 41)},
		{11, 0, rowOf(11, 12, 21, 13, 22, 14, 41)},
		{22, 0, rowOf(22)},
		{22, 1, rowOf(21, 22)},
		{22, 2, rowOf(11, 12, 21, 13, 22, 14, 41)},
		{31, 0, rowOf(31)},
		{41, 1, rowOf(13, 14, 41)},
		{10, 0, rowOf(10, 11, 12, 21, 31, 13, 22, 14, 41)},
		{10, -7, rowOf(10, 11, 12, 21, 31, 13, 22, 14, 41)},
	} {
		b := grown(t)
		b.agrees(t)
		b.flatten(t, api.Hash{x.root}, x.layers)
		if got := b.x.Roots(); !slices.Equal(got, x.want) {
			t.Errorf("P17.5: Flatten of %d, %d: %x", x.root, x.layers, got)
		}
		b.agrees(t)
		b.recorded(t)
		for _, root := range []api.Hash{{}, {99}, {5}} {
			b.flatten(t, root, 0)
			b.agrees(t)
		}
		b.reopen(t)
		b.agrees(t)
	}
}

// TestFlattenAgain: step by step from the top, and what is put above meanwhile.
func TestFlattenAgain(t *testing.T) {
	t.Parallel()
	b := grown(t)
	for i, layers := range []int{4, 3, 3, 2, 2, 1, 1, 0} {
		b.flatten(t, api.Hash{14}, layers)
		b.agrees(t)
		b.update(t, api.Hash{14}, api.Hash{100, byte(i)}, []api.KV{{Key: []byte(b.keys[len(b.keys)-1]), Value: []byte(fmt.Sprint(i))}})
		b.update(t, api.Hash{13}, api.Hash{101, byte(i)}, nil)
		b.agrees(t)
	}
	b.flatten(t, api.Hash{100, 7}, 0)
	b.agrees(t)
	b.recorded(t)
}

// TestFlattenHalfGenerated: changes of keys that stand ahead of what is still to be generated are written, others come from the new root's trie: P17.5, P17.6.
func TestFlattenHalfGenerated(t *testing.T) {
	t.Parallel()
	for at := range 30 {
		b := newBench(t, options())
		one, two := b.lay(t, someLedger()), b.lay(t, otherLedger())
		from, to := b.have.flat(one), b.have.flat(two)
		b.reset(t, one)
		b.generate(t, at)
		b.update(t, one, two, changes(from, to))
		b.agrees(t)
		before := b.knowsTruly(t, two, to)
		b.flatten(t, two, 0)
		b.agrees(t)
		b.recorded(t)
		if behind := b.knowsTruly(t, two, to); behind > before || at > 0 && behind == 0 {
			t.Errorf("P17.5: %d entries: %d keys were known, and are %d", at, before, behind)
		}
		if at%3 == 0 {
			b.reopen(t)
		}
		for !b.x.Done() {
			b.generate(t, 1+at%4)
			b.agrees(t)
			b.recorded(t)
			b.knowsTruly(t, two, to)
		}
		if got := recordsIn(t, b.store); fmt.Sprint(got) != fmt.Sprint(to) {
			t.Errorf("P17.7: %d entries, not %d", len(got), len(to))
		}
	}
}

// TestSave: what Open tells behind Save, and behind what comes then: P17.5.
func TestSave(t *testing.T) {
	t.Parallel()
	for what, do := range map[string]func(b *bench){
		"nothing":       func(b *bench) {},
		"Save":          func(b *bench) { b.save(t) },
		"Reset":         func(b *bench) { b.reset(t, api.Hash{77}) },
		"Reset alike":   func(b *bench) { b.reset(t, api.Hash{10}) },
		"Flatten":       func(b *bench) { b.flatten(t, api.Hash{14}, 2) },
		"Flatten all":   func(b *bench) { b.flatten(t, api.Hash{14}, 0) },
		"Flatten none":  func(b *bench) { b.flatten(t, api.Hash{14}, 4); b.flatten(t, api.Hash{10}, 0) },
		"Flatten wrong": func(b *bench) { b.flatten(t, api.Hash{99}, 0) },
		"Generate":      func(b *bench) { b.generate(t, 1) },
		"Update":        func(b *bench) { b.update(t, api.Hash{14}, api.Hash{55}, nil) },
		"Update, Save":  func(b *bench) { b.update(t, api.Hash{14}, api.Hash{55}, nil); b.save(t) },
		"Flatten, Save": func(b *bench) { b.flatten(t, api.Hash{14}, 2); b.save(t) },
		"Flatten all, Save": func(b *bench) {
			b.flatten(t, api.Hash{14}, 0)
			b.save(t)
		},
		"Flatten, Update, Save, Flatten": func(b *bench) {
			b.flatten(t, api.Hash{14}, 2)
			b.update(t, api.Hash{14}, api.Hash{55}, []api.KV{{Key: []byte(strings.Repeat("k", 32)), Value: []byte("v")}})
			b.save(t)
			b.flatten(t, api.Hash{55}, 2)
		},
	} {
		for _, isSaved := range []bool{false, true} {
			b := grown(t)
			if isSaved {
				b.save(t)
			}
			b.agrees(t)
			do(b)
			b.agrees(t)
			b.tidy(t)
			for range 2 {
				b.reopen(t)
				if wrong := differs(b.x, b.m, b.keys); wrong != "" {
					t.Errorf("P17.5: %s, %v: %s", what, isSaved, wrong)
				}
			}
			b.reset(t, api.Hash{1})
			l, err := b.store.Range(nil, nil, b.store.Last(), 100)
			if err != nil || len(l) != 1 {
				t.Errorf("%s: %d keys, %v", what, len(l), err)
			}
		}
	}
}

// TestSaveOften: as long as Saves follow, the store has one row of layers.
func TestSaveOften(t *testing.T) {
	t.Parallel()
	b := grown(t)
	for range 40 {
		b.save(t)
		b.tidy(t)
	}
	b.reopen(t)
	b.agrees(t)
}

// TestSavesAll: values of any length, layers without changes, and very many.
func TestSavesAll(t *testing.T) {
	t.Parallel()
	b := newBench(t, greatOptions())
	root := b.x.Roots()[0]
	for i, size := range []int{0, 1, api.MaxValue - 1, api.MaxValue, api.MaxValue + 1, 3 * api.MaxValue, 100000} {
		key := []byte(strings.Repeat(fmt.Sprint(i), 32))
		b.keys = append(b.keys, string(key), string(key)+string(key))
		next := api.Hash{1, byte(i)}
		b.update(t, root, next, []api.KV{{Key: key, Value: []byte(strings.Repeat("v", size))}, {Key: slices.Concat(key, key), Value: []byte("v")}})
		root = next
	}
	for i := range 600 {
		next := api.Hash{2, byte(i >> 8), byte(i)}
		b.update(t, root, next, nil)
		if i%3 > 0 {
			root = next
		}
	}
	b.save(t)
	b.reopen(t)
	if wrong := differs(b.x, &model{kept: b.m.kept, layers: b.m.layers[:7]}, nil); !strings.HasPrefix(wrong, "Roots") || len(b.x.Roots()) != 608 {
		t.Errorf("P17.5: %d roots", len(b.x.Roots()))
	}
	for _, at := range []api.Hash{root, {1, 6}, {1, 3}, b.m.root} {
		for _, key := range b.keys {
			if got, want := told(b.x, at, key), b.m.answer(at, key); got != want {
				t.Errorf("P17.5: %x: %.40s, not %.40s", at[:2], got, want)
			}
		}
	}
}

// TestTooLong: a value that the store doesn't take: its error, where it is to be written; nothing has changed.
func TestTooLong(t *testing.T) {
	t.Parallel()
	b := newBench(t, options())
	a, c := strings.Repeat("a", 32), strings.Repeat("c", 32)
	b.keys = append(b.keys, a, c)
	b.update(t, b.m.root, api.Hash{1}, []api.KV{{Key: []byte(a), Value: []byte(strings.Repeat("v", api.MaxValue))}})
	b.update(t, api.Hash{1}, api.Hash{2}, []api.KV{{Key: []byte(a), Value: []byte("short")}, {Key: []byte(c), Value: []byte(strings.Repeat("v", api.MaxValue+1))}})
	b.update(t, api.Hash{2}, api.Hash{3}, []api.KV{{Key: []byte(c), Value: []byte("short, too")}})
	b.save(t)
	last := b.store.Last()
	for _, size := range []int{1, 2, api.MaxBatch} {
		b.x.Limit(size)
		if err := b.x.Flatten(api.Hash{2}, 0); !is(err, api.ErrLsmBatch) {
			t.Errorf("P17.5: %v", err)
		}
		b.agrees(t)
		if b.store.Last() != last {
			t.Errorf("P17.5: something was written")
		}
	}
	b.reopen(t)
	b.agrees(t)
	b.flatten(t, api.Hash{3}, 2)
	b.agrees(t)
	b.flatten(t, api.Hash{3}, 0) // its value isn't written: a later one takes its place
	b.agrees(t)
	b.recorded(t)
	// Neither is one that is still to be generated.
	b.reset(t, api.Hash{4})
	b.update(t, api.Hash{4}, api.Hash{5}, []api.KV{{Key: []byte(c), Value: []byte(strings.Repeat("v", api.MaxValue+1))}})
	b.flatten(t, api.Hash{5}, 0)
	b.agrees(t)
	b.recorded(t)
}

// TestSaveCutOff: of a Save that was cut off nothing is left behind the next one, and Open tells what was saved ahead of it.
func TestSaveCutOff(t *testing.T) {
	t.Parallel()
	for call := 1; call < 12; call++ {
		b := newBench(t, options())
		key := []byte(strings.Repeat("k", 32))
		b.keys = append(b.keys, string(key))
		b.update(t, b.m.root, api.Hash{1}, []api.KV{{Key: key, Value: []byte("v")}})
		b.save(t)
		b.update(t, api.Hash{1}, api.Hash{2}, []api.KV{{Key: key, Value: []byte(strings.Repeat("v", 6*api.MaxValue))}})
		b.x.Limit(1)
		b.d.Fail(call)
		if err := b.x.Save(); !is(err, api.ErrDiskIO) {
			t.Fatal(err)
		}
		b.agrees(t)
		b.reopen(t)
		b.agrees(t)
		b.update(t, api.Hash{1}, api.Hash{3}, nil)
		b.save(t)
		b.tidy(t)
		b.reopen(t)
		b.agrees(t)
	}
}
