package snap_test

import (
	"fmt"
	"maps"
	"math/rand"
	"slices"
	"testing"

	"moraine/api"
	"moraine/trie"
)

// TestTruth: drawn calls with changes that lead from one flat world to the other, calls of the disk that fail, falls of power in the midst of calls: what is known is true (P17.6), and all is, when all is generated (P17.7).
func TestTruth(t *testing.T) {
	t.Parallel()
	seeded(t, 60, func(t *testing.T, r *rand.Rand) {
		b := newBench(t, options())
		flats := map[api.Hash]map[string]string{trie.Empty(): {}}
		l := drawLedger(r)
		for range 7 {
			l = l.changed(r)
			flats[b.lay(t, l)] = nil
		}
		isWhole := r.Intn(3) > 0
		if !isWhole { // what is below nodes that aren't there isn't in a flat world
			for h := range maps.Clone(b.have) {
				if r.Intn(20) == 0 {
					b.lose(t, h)
				}
			}
		}
		for root := range maps.Clone(flats) {
			flats[root] = b.have.flat(root)
		}
		roots := slices.SortedFunc(maps.Keys(flats), func(x, y api.Hash) int { return slices.Compare(x[:], y[:]) })
		met := map[string]int{}
		for range 150 {
			if r.Intn(3) > 0 {
				b.tended(t, r)
			}
			one, two := roots[r.Intn(len(roots))], roots[r.Intn(len(roots))]
			there := b.x.Roots()
			if r.Intn(3) > 0 {
				one = there[r.Intn(len(there))]
			}
			ahead, next := fmt.Sprint(there, b.x.Done()), ""
			disturbed := r.Intn(8)
			switch disturbed {
			case 0:
				b.d.Fail(1 + r.Intn(4))
			case 1:
				b.d.Halt(r.Intn(4))
			}
			var err error
			switch r.Intn(9) {
			case 0:
				err = b.x.Reset(two)
				next = fmt.Sprint([]api.Hash{two}, false)
			case 1, 2, 3:
				_, err = b.x.Generate(b.nodes, 1+r.Intn(9))
			case 4, 5:
				err = b.x.Update(one, two, changes(flats[one], flats[two]))
			case 6, 7:
				err = b.x.Flatten(one, r.Intn(4))
			case 8:
				err = b.x.Save()
			}
			if err != nil && !is(err, api.ErrSnapRoot) && !is(err, api.ErrSnapTwice) {
				if got := fmt.Sprint(b.x.Roots(), b.x.Done()); got != ahead {
					t.Fatalf("a call that failed changed something: %s, not %s", got, ahead)
				}
			} else if next != "" && fmt.Sprint(b.x.Roots(), b.x.Done()) != next {
				t.Fatalf("P17.2: %v", b.x.Roots())
			}
			b.allTrue(t, flats, met)
			if disturbed < 2 || r.Intn(30) == 0 {
				b.d.Fail(0)
				b.d.Restart(crash(r, r.Intn(crashKinds)))
				b.open(t)
				b.allTrue(t, flats, met)
			}
		}
		if !isWhole {
			return
		}
		b.reset(t, roots[0])
		if _, err := b.x.Generate(b.nodes, 1<<20); err != nil {
			t.Fatal(err)
		}
		b.allTrue(t, flats, met)
		got := recordsIn(t, b.store)
		if !maps.Equal(got, flats[roots[0]]) {
			t.Errorf("P17.7: %d records, not %d", len(got), len(flats[roots[0]]))
		}
		if met["done"] == 0 || met["not done"] == 0 || met["known"] == 0 {
			t.Errorf("%v", met)
		}
	})
}

// allTrue: that all a tree knows is true, of each of its roots; of a disk layer that is done it knows all keys.
func (b *bench) allTrue(t *testing.T, flats map[api.Hash]map[string]string, met map[string]int) {
	t.Helper()
	for i, root := range b.x.Roots() {
		flat, ok := flats[root]
		if !ok {
			t.Fatalf("P17.1: %x", root)
		}
		known := b.knowsTruly(t, root, flat)
		met["known"] += known
		keys := slices.DeleteFunc(slices.Clone(b.keys), func(key string) bool { return len(key) != 32 && len(key) != 64 })
		if b.x.Done() && known != len(keys) {
			t.Fatalf("P17.7: %d of %d keys are known at %x, layer %d", known, len(keys), root[:4], i)
		}
	}
	if b.x.Done() {
		met["done"]++
	} else {
		met["not done"]++
	}
}
