package snap_test

import (
	"errors"
	"fmt"
	"math/rand"
	"slices"
	"strings"
	"testing"

	"moraine/api"
	"moraine/snap"
	"moraine/trie"
)

// deed: a call that is to be disturbed: what it is on, and what its model does.
type deed struct {
	what  string
	bench func(t *testing.T) *bench
	call  func(b *bench) error
	model func(b *bench)
	half  func(m *model) // what else Open may tell, where it is done by several batches
}

const smallDisk = 1 << 17

// flatBench: a tree of which so many entries are generated, and a layer above it; some of it is saved.
func flatBench(t *testing.T, count int) *bench {
	t.Helper()
	b := benchOn(t, options(), smallDisk)
	one, two := b.lay(t, someLedger()), b.lay(t, otherLedger())
	b.reset(t, one)
	b.generate(t, count)
	b.update(t, one, two, changes(b.have.flat(one), b.have.flat(two)))
	b.update(t, one, api.Hash{9}, []api.KV{{Key: []byte(strings.Repeat("d", 32))}})
	b.save(t)
	b.update(t, two, api.Hash{8}, []api.KV{{Key: []byte(strings.Repeat("d", 32)), Value: []byte("new")}})
	return b
}

// manyPaths: nodes that make the trie of 16 to the power of forks keys, each with the same value.
func manyPaths(forks int, value string) (api.Hash, []api.Node) {
	x := leaf(strings.Repeat("\x07", 64-forks), value)
	var nodes []api.Node
	for range forks {
		n := nodeOf(x)
		nodes = append(nodes, n)
		x = list(append(slices.Repeat([]api.Item{hashed(n.Hash)}, 16), text(nil))...)
	}
	n := nodeOf(x)
	return n.Hash, append(nodes, n)
}

func deeds() []deed {
	two, _ := otherLedger().lay()
	reset := func(count int, root api.Hash) deed {
		call := func(b *bench) error { return b.x.Reset(root) }
		return deed{bench: some(count), call: call, model: func(b *bench) { b.m.reset(root) }}
	}
	generate := func(count, n int) deed {
		call := func(b *bench) error { _, err := b.x.Generate(b.nodes, n); return err }
		return deed{bench: some(count), call: call, model: func(b *bench) { b.m.generate(b.have, n) }}
	}
	flatten := func(count, layers int) deed {
		call := func(b *bench) error { return b.x.Flatten(api.Hash{8}, layers) }
		less := func(m *model) { m.reset([]api.Hash{{8}, two}[layers]) }
		return deed{bench: some(count), call: call, model: func(b *bench) { b.m.flatten(api.Hash{8}, layers) }, half: less}
	}
	save := func(count int) deed {
		return deed{bench: some(count), call: func(b *bench) error { return b.x.Save() }, model: func(b *bench) { b.m.save() }}
	}
	return []deed{
		reset(12, two).called("Reset"), reset(100, two).called("Reset of all"), reset(0, api.Hash{1}).called("Reset of none"),
		generate(7, 5).called("Generate"), generate(0, 1).called("Generate of one"), generate(7, 50).called("Generate to the end"),
		flatten(7, 1).called("Flatten"), flatten(100, 0).called("Flatten of all"), flatten(15, 0).called("Flatten of two layers"),
		save(7).called("Save"), save(100).called("Save of all"),
	}
}

// some tells how a tree is made of which so many entries are generated.
func some(count int) func(t *testing.T) *bench {
	return func(t *testing.T) *bench { return flatBench(t, count) }
}

func (x deed) called(what string) deed {
	x.what = what
	return x
}

// disturb does each deed, by batches of several sizes.
func disturb(t *testing.T, test func(t *testing.T, r *rand.Rand, x deed, size int)) {
	t.Parallel()
	for i, x := range deeds() {
		for _, size := range []int{1, 7, api.MaxBatch} {
			t.Run(fmt.Sprint(x.what, " by ", size), func(t *testing.T) {
				t.Parallel()
				test(t, rand.New(rand.NewSource(int64(i))), x, size)
			})
		}
	}
}

// isSpared: where there are very many calls, not all that may survive is tried behind each, but that all of it does is.
func isSpared(size, calls, behind int) bool { return size == 1 && behind != 1 && (calls+behind)%3 > 0 }

// TestFails: each changing call of the disk fails in the midst of each call: its error, and the tree is as it was; it reads on, and takes what needs no store. Behind an Open, and whatever survives, there is what was ahead, or what was to be.
func TestFails(t *testing.T) {
	disturb(t, func(t *testing.T, r *rand.Rand, x deed, size int) {
		calls := 0
		for failed := true; failed; calls++ {
			for behind := range crashKinds + 1 {
				if isSpared(size, calls, behind) {
					continue
				}
				b := x.bench(t)
				b.x.Limit(size)
				before := b.m.copied()
				b.d.Fail(calls + 1)
				err := x.call(b)
				if failed = err != nil; !failed {
					break
				}
				b.refused(t, err, api.ErrDiskIO)
				b.m = before
				if behind < crashKinds {
					b.d.Restart(crash(r, behind))
				}
				b.again(t, x, size)
			}
		}
		if calls < 3 {
			t.Errorf("too few calls: %d", calls)
		}
	})
}

// TestFalls: power falls at each changing call in the midst of each call, and this or that survives.
func TestFalls(t *testing.T) {
	disturb(t, func(t *testing.T, r *rand.Rand, x deed, size int) {
		met, calls := map[string]int{}, 0
		for fell := true; fell; calls++ {
			for behind := range crashKinds {
				if isSpared(size, calls, behind) {
					continue
				}
				b := x.bench(t)
				b.x.Limit(size)
				before := b.m.copied()
				b.d.Halt(calls)
				err := x.call(b)
				if fell = err != nil; !fell {
					break
				}
				b.refused(t, err, api.ErrDiskDown)
				b.d.Restart(crash(r, behind))
				b.m = before
				met[b.again(t, x, size)]++
			}
		}
		hasHalf := x.half != nil && size < 8
		if calls < 3 || met["none"] == 0 || met["whole"] == 0 || hasHalf != (met["half"] > 0) {
			t.Errorf("%d calls, %v", calls, met)
		}
	})
}

// refused: what a tree is like when the store has failed below it.
func (b *bench) refused(t *testing.T, err error, want api.Errno) {
	t.Helper()
	if !is(err, want) {
		t.Fatalf("%v, not %v", err, want)
	}
	b.agrees(t)
	root := b.x.Roots()[0]
	above := b.x.Roots()[len(b.x.Roots())-1]
	for range 2 {
		for what, call := range map[string]func() error{
			"Reset":    func() error { return b.x.Reset(trie.Empty()) },
			"Flatten":  func() error { return b.x.Flatten(above, 0) },
			"Save":     b.x.Save,
			"Generate": func() error { _, err := b.x.Generate(b.nodes, 1); return err },
		} {
			want := api.ErrLsmReadOnly
			if what == "Flatten" && above == root || what == "Generate" && b.x.Done() {
				want = api.OK
			}
			if err := call(); !is(err, want) {
				t.Fatalf("%s of a tree above a dead store: %v, not %v", what, err, want)
			}
			b.agrees(t)
		}
	}
	if done, err := b.x.Generate(b.nodes, 0); done != b.x.Done() || err != nil {
		t.Fatalf("P17.2: %v, %v", done, err)
	}
	b.update(t, root, api.Hash{0xAA}, []api.KV{{Key: []byte(b.keys[len(b.keys)/2] + strings.Repeat("_", 64))[:32], Value: []byte("more")}})
	b.agrees(t)
}

// again: behind an Open there is what was ahead of a call, or what it was to do, or what its chapter says beside; which of these. It can be done again.
func (b *bench) again(t *testing.T, x deed, size int) string {
	t.Helper()
	b.open(t)
	ahead := b.m.opened()
	x.model(b)
	whole := b.m.opened()
	got := ""
	switch {
	case differs(b.x, whole, b.keys) == "":
		got, b.m = "whole", whole
	case differs(b.x, ahead, b.keys) == "":
		got, b.m = "none", ahead
	case x.half != nil && size < api.MaxBatch:
		got, b.m = "half", ahead.copied()
		x.half(b.m)
		b.agrees(t)
	default:
		t.Fatalf("P17.1: neither what was ahead (%s), nor what was to be (%s)", differs(b.x, ahead, b.keys), differs(b.x, whole, b.keys))
	}
	// All goes on from there, and leaves nothing that isn't known.
	b.generate(t, 3)
	b.agrees(t)
	b.generate(t, 1<<20)
	b.agrees(t)
	if b.m.done {
		b.recorded(t)
	}
	if got != "none" {
		return got
	}
	b.update(t, b.m.root, api.Hash{0xAB}, []api.KV{{Key: []byte(strings.Repeat("k", 32)), Value: []byte("v")}})
	b.save(t)
	b.tidy(t)
	b.flatten(t, api.Hash{0xAB}, 0)
	b.tidy(t)
	b.reopen(t)
	b.agrees(t)
	return got
}

// TestFull: a disk with this or that room left: the error, and nothing has changed; with room it is done.
func TestFull(t *testing.T) {
	t.Parallel()
	for _, x := range deeds() {
		t.Run(x.what, func(t *testing.T) {
			t.Parallel()
			fulls := 0
			for room, full := 0, true; full; room += 1 + room/4 {
				b := x.bench(t)
				before := b.m.copied()
				for _, e := range []api.Errno{b.d.Create("mine"), b.d.SyncDir(), b.d.Append("mine", make([]byte, smallDisk-b.d.Used()-room)), b.d.Sync("mine")} {
					if e != api.OK {
						t.Fatal(e)
					}
				}
				err := x.call(b)
				if full = err != nil; !full {
					break
				}
				fulls++
				b.refused(t, err, api.ErrDiskFull)
				if e := b.d.Remove("mine"); e != api.OK {
					t.Fatal(e)
				}
				b.m = before
				if got := b.again(t, x, api.MaxBatch); got != "none" {
					t.Errorf("behind a full disk: %s", got)
				}
			}
			if fulls < 5 {
				t.Errorf("too few found the disk full: %d", fulls)
			}
		})
	}
}

// TestOpenFails: an Open that a store answers an error: it is told, wrapped.
func TestOpenFails(t *testing.T) {
	t.Parallel()
	b := flatBench(t, 7)
	for range 2 {
		b.d.Halt(0)
		b.d.Create("x") // power falls
		x, err := snap.Open(b.store)
		var f *api.Fault
		if err == nil && differs(x, b.m.opened(), b.keys) != "" || err != nil && (x != nil || !errors.As(err, &f)) {
			t.Errorf("%v, %v", x, err)
		}
		b.d.Restart(api.Crash{})
		b.reopen(t)
		b.agrees(t)
	}
}
