package state_test

import (
	"math/big"
	"slices"
	"testing"

	"moraine/api"
	"moraine/keccak"
	"moraine/state"
	"moraine/trie"
)

// scribble changes a list, and its spare room.
func scribble(b []byte) {
	b = b[:cap(b)]
	for i := range b {
		b[i] = '?'
	}
}

// TestHandedIn: codes and records stay as they are, and may be changed behind the call, taken or refused.
func TestHandedIn(t *testing.T) {
	t.Parallel()
	b := newBench(t)
	for i, size := range []int{0, 5, 4096, 4097} {
		whole := make([]byte, size+20)
		for j := range whole {
			whole[j] = byte(i + 1)
		}
		was := slices.Clone(whole)
		a := addr(i)
		err := b.x.SetCode(a, whole[:size])
		if want := b.m.setCode(a, string(whole[:size])); !is(err, want) || !slices.Equal(whole, was) {
			t.Fatalf("rule 3: %v", err)
		}
		scribble(whole)
		b.agrees(t)
	}
	b.commit(t)
	b.agrees(t)
	good := []byte(record(1, big.NewInt(2), trie.Empty(), keccak.Sum()) + "behind it")
	was := slices.Clone(good)
	for _, n := range []int{0, 5, len(good) - 9, len(good)} {
		state.Decode(good[:n])
		if !slices.Equal(good, was) {
			t.Fatal("rule 3: a record was changed")
		}
	}
}

// TestTold: answers may be changed, their spare room too: no other answer is touched.
func TestTold(t *testing.T) {
	t.Parallel()
	b := newBench(t)
	b.setCode(t, addr(1), "code")
	b.setCode(t, addr(2), "code")
	b.add(t, addr(3), word(9))
	for k := range 4 {
		b.setSlot(t, addr(k), word(k), word(200+k))
	}
	for range 3 {
		var codes [][]byte
		for range 2 {
			for i := range 3 {
				code, _ := b.x.Code(addr(i))
				codes = append(codes, code)
			}
		}
		for i, code := range codes {
			if want := []string{"", "code", "code"}[i%3]; string(code) != want {
				t.Fatalf("rule 3: %q", code)
			}
			scribble(code)
		}
		b.agrees(t)
		_, want := (&model{base: b.m.base, now: b.m.now.settled(b.m.met)}).commit()
		_, l, err := b.x.Commit()
		b.m.commit()
		if err != nil || !alike(l, want) {
			t.Fatalf("P18.5: %s, %v", say(l), err)
		}
		for i := range l {
			scribble(l[i].Key)
			if len(l[i].Value) > 0 && string(l[i].Value) != string(want[i].Value) || i+1 < len(l) && !alike(l[i+1:], want[i+1:]) {
				t.Fatal("rule 3: two lists of one answer share memory")
			}
			scribble(l[i].Value)
		}
		clear(l[:cap(l)])
		b.agrees(t)
		b.add(t, addr(1), word(1))
		b.destroy(t, addr(2))
		b.setCode(t, addr(2), "code")
	}
	a := api.Account{Nonce: 5, Balance: word(9), Root: trie.Empty(), Code: keccak.Sum()}
	one, two := state.Encode(a), state.Encode(a)
	scribble(one)
	if got, e := state.Decode(two); got != a || e != api.OK {
		t.Errorf("rule 3: %v, %d", got, e)
	}
}

// TestHeld: a state holds no moment of the store, and writes nothing but codes.
func TestHeld(t *testing.T) {
	t.Parallel()
	b, _ := ready(t)
	last := b.store.Last()
	b.agrees(t)
	b.root(t)
	if b.store.Last() != last {
		t.Errorf("P18.5: Root writes")
	}
	b.commit(t)
	if err := b.store.Release(b.store.Last()); !is(err, api.ErrLsmSeq) {
		t.Errorf("a moment is held: %v", err)
	}
}

// TestGreat: many accounts and slots, committed at once, changed, destroyed.
func TestGreat(t *testing.T) {
	t.Parallel()
	b := newBench(t)
	b.addrs = nil
	for i := range 600 {
		b.addrs = append(b.addrs, addr(i))
		b.add(t, addr(i), word(i+1))
	}
	for k := range 900 {
		b.setSlot(t, addr(3), word(k), word(k+1))
		b.setSlot(t, addr(4), word(k), word(k+1))
	}
	root := b.commit(t)
	b.agrees(t)
	b.destroy(t, addr(3))
	b.setSlot(t, addr(3), word(7), word(8))
	b.add(t, addr(3), word(1))
	for k := range 899 {
		b.setSlot(t, addr(4), word(k), word(0))
	}
	for i := range 600 {
		if i%3 == 0 && i != 3 {
			b.sub(t, addr(i), word(i+1))
		}
	}
	b.root(t)
	b.commit(t)
	b.agrees(t)
	b.open(root)
	b.agrees(t)
}
