package state_test

import (
	"maps"
	"math/big"
	"math/rand"
	"slices"
	"strings"
	"testing"

	"moraine/api"
)

// drawNumber: small ones, great ones, those in between.
func drawNumber(r *rand.Rand) api.Word {
	n := big.NewInt(int64(r.Intn(3)))
	switch r.Intn(8) {
	case 0:
		n.Sub(new(big.Int).Lsh(big.NewInt(1), uint(r.Intn(257))), n)
	case 1:
		n.Rand(r, new(big.Int).Lsh(big.NewInt(1), 256))
	}
	if n.Sign() < 0 || n.BitLen() > 256 {
		n.SetInt64(7)
	}
	return wordOf(n)
}

func drawCode(r *rand.Rand) string {
	switch r.Intn(4) {
	case 0:
		return ""
	case 1:
		return strings.Repeat("x", []int{4095, 4096, 4097, 5000}[r.Intn(4)])
	}
	return strings.Repeat("c", r.Intn(6))
}

// change: one call that changes something, drawn.
func (b *bench) change(t *testing.T, r *rand.Rand) {
	t.Helper()
	a := b.addrs[r.Intn(len(b.addrs))]
	switch r.Intn(10) {
	case 0, 1:
		b.add(t, a, drawNumber(r))
	case 2:
		b.sub(t, a, drawNumber(r))
	case 3: // all of it, or one more
		b.sub(t, a, wordOf(b.m.now.at(a).balance))
		b.sub(t, a, word(r.Intn(2)))
	case 4:
		b.setNonce(t, a, []uint64{0, 1, 7, 1<<64 - 2, 1<<64 - 1}[r.Intn(5)])
	case 5:
		b.setCode(t, a, drawCode(r))
	case 6, 7, 8:
		b.setSlot(t, a, b.words[r.Intn(len(b.words))], []api.Word{{}, word(1), word(200), drawNumber(r)}[r.Intn(4)])
	case 9:
		b.destroy(t, a)
	}
}

// TestDrawn: calls, drawn, held against the model: worlds that change, are taken back, committed, opened again.
func TestDrawn(t *testing.T) {
	t.Parallel()
	seeded(t, 60, func(t *testing.T, r *rand.Rand) {
		b := newBench(t)
		for range 150 {
			switch r.Intn(14) {
			case 0:
				b.mark(t)
			case 1:
				b.revert(t, r.Intn(b.m.next+1)-r.Intn(2))
			case 2:
				b.root(t)
			case 3:
				root := b.commit(t)
				if r.Intn(2) == 0 {
					if err := b.nodes.Commit(root); err != nil {
						t.Fatal(err)
					}
				}
			case 4:
				roots := slices.SortedFunc(maps.Keys(b.worlds), func(a, b api.Hash) int { return strings.Compare(string(a[:]), string(b[:])) })
				b.open(roots[r.Intn(len(roots))])
			default:
				b.change(t, r)
			}
			b.agrees(t)
		}
		b.commit(t)
		for root := range b.worlds {
			b.open(root)
			b.agrees(t)
			if b.root(t) != root {
				t.Error("P18.7: it has another root")
			}
			b.isThere(t, root)
		}
		b.released(t)
	})
}

// TestBackAndOn: a world that goes back to marks, and on, has the root that it has without what was taken back; nodes and changes, too.
func TestBackAndOn(t *testing.T) {
	t.Parallel()
	seeded(t, 40, func(t *testing.T, r *rand.Rand) {
		b := newBench(t)
		for range 30 {
			b.change(t, r)
		}
		from := b.commit(t)
		for range 10 {
			m := b.mark(t)
			for range r.Intn(8) {
				b.change(t, r)
				switch r.Intn(6) {
				case 0:
					b.root(t)
				case 1:
					b.mark(t)
				}
			}
			b.revert(t, m)
			b.change(t, r)
		}
		want := maps.Clone(b.m.now)
		root := b.commit(t)
		// The same world made at once.
		b.open(from)
		for a, x := range b.m.now {
			if _, ok := want[a]; !ok && !x.isNone() {
				b.destroy(t, a)
			}
		}
		for a, x := range want {
			b.destroy(t, a)
			b.add(t, a, wordOf(x.balance))
			b.setNonce(t, a, x.nonce)
			b.setCode(t, a, x.code)
			for k, v := range x.slots {
				b.setSlot(t, a, k, v)
			}
		}
		if b.root(t) != root || b.commit(t) != root {
			t.Error("P18.6: another root")
		}
	})
}
