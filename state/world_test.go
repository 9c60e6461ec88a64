package state_test

import (
	"bytes"
	"math/big"
	"strings"
	"testing"

	"moraine/api"
	"moraine/keccak"
	"moraine/state"
	"moraine/trie"
)

// power: a word with one bit.
func power(bit int) api.Word { return wordOf(new(big.Int).Lsh(big.NewInt(1), uint(bit))) }

// most: the greatest word.
func most() api.Word { return api.Word(bytes.Repeat([]byte{255}, 32)) }

// TestExamples of the chapter.
func TestExamples(t *testing.T) {
	t.Parallel()
	b := newBench(t)
	b.add(t, addr(1), word(1))
	x, ok, err := b.x.Account(addr(1))
	if (x != api.Account{Balance: word(1), Root: trie.Empty(), Code: keccak.Sum()}) || !ok || err != nil {
		t.Errorf("P18.2: %v, %v, %v", x, ok, err)
	}
	if m := b.x.Mark(); m != 0 {
		t.Errorf("P18.4: Mark: %d", m)
	}
	b.x.Sub(addr(1), word(1))
	if err := b.x.Revert(0); err != nil {
		t.Error(err)
	}
	if x, ok, _ := b.x.Account(addr(1)); x.Balance != word(1) || !ok {
		t.Errorf("P18.4: %v, %v", x, ok)
	}
	if err := b.x.Revert(0); !is(err, api.ErrStateRevert) {
		t.Errorf("P18.4: %v", err)
	}
	c := newBench(t)
	c.setSlot(t, addr(1), word(1), word(2))
	if root, err := c.x.Root(); root != trie.Empty() || err != nil {
		t.Errorf("P18.5: %x, %v", root, err)
	}
}

// TestBalances: sums and differences that come to the bounds, and past them.
func TestBalances(t *testing.T) {
	t.Parallel()
	b := newBench(t)
	a := addr(1)
	b.sub(t, a, word(1)) // refused
	b.sub(t, a, most())  // refused
	b.sub(t, a, word(0))
	b.agrees(t)
	b.add(t, a, most())
	b.add(t, a, word(1)) // refused
	b.add(t, a, most())  // refused
	b.add(t, a, word(0))
	b.agrees(t)
	b.sub(t, a, most())
	b.agrees(t)
	for bit := range 256 {
		b.add(t, a, power(bit))
		b.add(t, a, power(bit)) // it is carried
		b.agrees(t)
		b.sub(t, a, power(bit))
		b.sub(t, a, word(1)) // it is borrowed
		b.sub(t, a, power(255))
		b.add(t, a, most())
		b.agrees(t)
		b.sub(t, a, wordOf(b.m.now.at(a).balance))
		b.sub(t, a, word(1)) // refused
	}
	b.agrees(t)
	if x, ok, err := b.x.Account(a); ok || x != (api.Account{}) || err != nil {
		t.Errorf("P18.2: %v, %v, %v", x, ok, err)
	}
}

// TestNonces and codes: what is refused changes nothing.
func TestNonces(t *testing.T) {
	t.Parallel()
	b := newBench(t)
	a := addr(1)
	for _, n := range []uint64{1, 1<<64 - 2, 1<<64 - 1, 5, 0, 1<<64 - 1} {
		b.setNonce(t, a, n)
		b.agrees(t)
	}
	for _, n := range []int{0, 1, 4095, 4096, 4097, 70000, 3, 4097, 0} {
		b.setCode(t, a, strings.Repeat("c", n))
		b.agrees(t)
	}
	b.setNonce(t, a, 9)
	b.agrees(t)
	b.commit(t)
	b.setNonce(t, a, 1<<64-1)
	b.setCode(t, a, strings.Repeat("c", 4097))
	b.agrees(t)
	if root, err := b.x.Root(); err != nil || root != b.root(t) {
		t.Error(err)
	}
}

// TestNone: what an account that is none has, with slots, and without.
func TestNone(t *testing.T) {
	t.Parallel()
	b := newBench(t)
	a, other := addr(1), addr(2)
	b.setSlot(t, a, word(1), word(0))
	b.agrees(t)
	b.setSlot(t, a, word(1), word(5))
	b.agrees(t)
	b.setSlot(t, a, word(1), word(0))
	b.agrees(t)
	b.setSlot(t, a, word(1), word(5))
	b.add(t, a, word(3))
	b.setSlot(t, other, word(2), word(6))
	b.setCode(t, other, "x")
	b.setCode(t, other, "")
	b.agrees(t)
	b.root(t) // other goes
	b.agrees(t)
	b.sub(t, a, word(3))
	b.agrees(t) // it has a slot, and the root that was told
	b.setSlot(t, a, word(1), word(0))
	b.agrees(t) // nothing
	b.setSlot(t, a, word(2), word(1))
	b.setSlot(t, a, word(2), word(0))
	b.agrees(t)
	b.add(t, a, word(1))
	b.agrees(t) // the root that was told again
	b.setSlot(t, a, word(1), word(5))
	root := b.commit(t)
	for _, gone := range [][]int{{1}, {2}, {1, 2}, {0, 1, 2, 3}} {
		b.open(root)
		b.sub(t, a, word(1))
		b.agrees(t)
		for _, k := range gone {
			b.setSlot(t, a, word(k), word(0))
			b.agrees(t)
		}
		b.setSlot(t, a, word(9), word(9))
		b.agrees(t)
		b.setSlot(t, a, word(9), word(0))
		b.agrees(t)
	}
}

// TestToldRoot: an account's Root is what it was when a root was told last, whatever was done since, or taken back.
func TestToldRoot(t *testing.T) {
	t.Parallel()
	b := newBench(t)
	a := addr(1)
	b.add(t, a, word(1))
	told := func(want api.Hash) {
		t.Helper()
		if x, _, err := b.x.Account(a); x.Root != want || err != nil {
			t.Errorf("P18.2: %x, %v, not %x", x.Root, err, want)
		}
		b.agrees(t)
	}
	told(trie.Empty())
	m := b.mark(t)
	b.setSlot(t, a, word(1), word(1))
	told(trie.Empty())
	b.root(t)
	one := b.m.now.at(a).storageRoot()
	told(one)
	b.setSlot(t, a, word(2), word(2))
	told(one)
	b.revert(t, m)
	told(one) // a root was told, and isn't taken back
	b.root(t)
	told(trie.Empty())
	b.setSlot(t, a, word(1), word(1))
	root := b.commit(t)
	told(one)
	b.destroy(t, a)
	b.add(t, a, word(1))
	told(one)
	b.root(t)
	told(trie.Empty())
	b.open(root)
	told(one)
	b.setSlot(t, a, word(1), word(0))
	told(one)
	b.destroy(t, a)
	b.root(t)
	b.add(t, a, word(1))
	told(trie.Empty())
}

// TestDestroyed: what an account had doesn't come again with it.
func TestDestroyed(t *testing.T) {
	t.Parallel()
	b := newBench(t)
	a := addr(1)
	b.add(t, a, word(1))
	b.setNonce(t, a, 4)
	b.setCode(t, a, "code")
	for k := range 4 {
		b.setSlot(t, a, word(k), word(k+1))
	}
	b.commit(t)
	m := b.mark(t)
	b.destroy(t, a)
	b.agrees(t)
	n := b.mark(t)
	b.setSlot(t, a, word(2), word(9))
	b.agrees(t)
	b.destroy(t, a)
	b.agrees(t)
	b.setNonce(t, a, 1)
	b.agrees(t)
	b.revert(t, n)
	b.agrees(t)
	b.setSlot(t, a, word(2), word(3)) // as it was
	b.setSlot(t, a, word(3), word(7)) // another value
	b.setSlot(t, a, word(9), word(7)) // a new key
	b.add(t, a, word(1))
	b.agrees(t)
	b.root(t)
	b.agrees(t)
	b.revert(t, m)
	b.agrees(t)
	b.destroy(t, a)
	b.setSlot(t, a, word(2), word(3))
	b.setSlot(t, a, word(3), word(7))
	b.setSlot(t, a, word(9), word(7))
	b.add(t, a, word(1))
	b.commit(t)
	b.agrees(t)
	b.destroy(t, a)
	b.destroy(t, addr(2)) // there is none
	b.commit(t)
	b.agrees(t)
}

// TestMarks: their numbers, those that are gone, those that never were.
func TestMarks(t *testing.T) {
	t.Parallel()
	b := newBench(t)
	a := addr(1)
	for _, n := range []int{0, -1, 1, 1 << 62, -1 << 63} {
		b.revert(t, n)
	}
	for i := range 10 {
		b.add(t, a, power(i))
		b.mark(t)
		if i%3 == 0 {
			b.mark(t) // at once
		}
	}
	b.agrees(t)
	for _, n := range []int{14, 9, 9, 12, 10, 13} {
		b.revert(t, n)
		b.agrees(t)
	}
	b.mark(t) // 14: numbers go on
	b.add(t, a, power(100))
	b.mark(t)
	for _, n := range []int{13, 9, 14, 15, 5, 7, 0, 1} {
		b.revert(t, n)
		b.agrees(t)
	}
	b.mark(t)
	b.add(t, a, power(7))
	b.mark(t)
	b.commit(t)
	for n := range 20 {
		b.revert(t, n)
	}
	b.agrees(t)
	if b.mark(t) != 0 {
		t.Error("P18.4: the first mark behind a Commit")
	}
	b.add(t, a, power(8))
	b.mark(t)
	b.revert(t, 0)
	b.revert(t, 1)
	b.agrees(t)
	b.open(trie.Empty())
	if b.mark(t) != 0 {
		t.Error("P18.4: the first mark behind an Open")
	}
}

// TestMarksAndRoots: what Root took away is there again behind a Revert to a mark ahead of it, and isn't behind one to a later mark.
func TestMarksAndRoots(t *testing.T) {
	t.Parallel()
	b := newBench(t)
	a := addr(1)
	b.setSlot(t, a, word(1), word(1))
	m := b.mark(t)
	b.root(t)
	b.agrees(t)
	n := b.mark(t)
	b.add(t, a, word(1))
	b.agrees(t)
	b.revert(t, n)
	b.agrees(t)
	b.revert(t, m)
	b.agrees(t)
	if v, err := b.x.Slot(a, word(1)); v != word(1) || err != nil {
		t.Errorf("P18.4: %x, %v", v, err)
	}
	b.add(t, a, word(1))
	b.root(t)
	b.agrees(t)
}

// TestManyMarks: many changes, taken back one by one, from slots of many accounts.
func TestManyMarks(t *testing.T) {
	t.Parallel()
	b := newBench(t)
	for i := range 40 {
		b.mark(t)
		a := addr(i % 5)
		b.setSlot(t, a, word(i%4), word(i))
		b.mark(t)
		switch i % 7 {
		case 0:
			b.destroy(t, a)
		case 3:
			b.setCode(t, a, strings.Repeat("c", i))
		}
		b.add(t, a, word(i%3))
	}
	for n := 79; n >= 0; n-- {
		b.revert(t, n)
		b.agrees(t)
		if n%9 == 0 {
			b.root(t)
		}
	}
	if root := b.root(t); root != trie.Empty() {
		t.Errorf("P18.6: %x", root)
	}
}

// TestTwoStates above one triedb don't touch one another.
func TestTwoStates(t *testing.T) {
	t.Parallel()
	b := newBench(t)
	b.add(t, addr(1), word(1))
	b.setSlot(t, addr(1), word(1), word(1))
	root := b.commit(t)
	x, y := state.Open(root, b.nodes, b.store), state.Open(root, b.nodes, b.store)
	m := newModel(b.worlds[root])
	x.Mark()
	x.Add(addr(1), word(5))
	x.SetSlot(addr(1), word(1), word(9))
	x.Destroy(addr(2))
	if got := differs(y, m, addr(1), b.words); got != "" || is(y.Revert(0), api.OK) {
		t.Errorf("rule 6: %s", got)
	}
	if r, _, err := x.Commit(); r == root || err != nil {
		t.Errorf("%x, %v", r, err)
	}
	if got := differs(y, m, addr(1), b.words); got != "" {
		t.Errorf("rule 6: %s", got)
	}
	if r, err := y.Root(); r != root || err != nil {
		t.Errorf("rule 6: %x, %v", r, err)
	}
}
