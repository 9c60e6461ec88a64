package snap_test

import (
	"fmt"
	"strings"
	"testing"

	"moraine/api"
)

// roomy: a copy with spare room behind it, and all of it.
func roomy(b string) ([]byte, []byte) {
	whole := []byte(b + "what stands behind it")
	return whole[:len(b)], whole
}

// scribble changes a list, and its spare room.
func scribble(b []byte) {
	b = b[:cap(b)]
	for i := range b {
		b[i] = '?'
	}
}

// TestHandedIn: changes and keys stay as they are, and may be changed behind the call, taken or refused.
func TestHandedIn(t *testing.T) {
	t.Parallel()
	b := newBench(t, options())
	a, c := strings.Repeat("a", 32), strings.Repeat("c", 64)
	b.keys = append(b.keys, a, c)
	parent := b.m.root
	for i, key := range []string{a, c, "short", a} {
		root := api.Hash{byte(i + 1)}
		if i == 3 {
			root = api.Hash{1} // there is one
		}
		keyIn, keyWhole := roomy(key)
		valueIn, valueWhole := roomy(fmt.Sprint("value", i))
		l := make([]api.KV, 0, 4)
		l = append(l, api.KV{Key: keyIn, Value: valueIn}, api.KV{Key: []byte(strings.Repeat("k", 32))})
		b.update(t, parent, root, l)
		if string(keyWhole) != key+"what stands behind it" || string(valueWhole) != fmt.Sprint("value", i)+"what stands behind it" || l[:3][2].Key != nil || len(l[1].Key) != 32 || len(l) != 2 {
			t.Fatalf("rule 3: the changes were changed: %q, %q", keyWhole, valueWhole)
		}
		scribble(keyWhole)
		scribble(valueWhole)
		clear(l[:4])
		b.agrees(t)
	}
	for i, key := range []string{a, c, "short", strings.Repeat("q", 32)} {
		in, whole := roomy(key)
		for range 2 {
			b.x.Read(api.Hash{1}, in)
			b.x.Read(api.Hash{2}, in)
			b.x.Read(parent, in)
			b.x.Read(api.Hash{0xEE}, in)
			if string(whole) != key+"what stands behind it" {
				t.Fatalf("rule 3: a key was changed: %d, %q", i, whole)
			}
		}
	}
	b.flatten(t, api.Hash{2}, 0)
	b.agrees(t)
}

// TestTold: answers may be changed, their spare room too: no other answer is touched.
func TestTold(t *testing.T) {
	t.Parallel()
	b := flatBench(t, 9)
	b.agrees(t)
	for range 3 {
		var values [][]byte
		var wants []string
		for _, root := range b.x.Roots() {
			for _, key := range b.keys {
				for range 2 {
					value, _, _, _ := b.x.Read(root, []byte(key))
					values, wants = append(values, value), append(wants, string(value))
				}
			}
		}
		for i, value := range values {
			if string(value) != wants[i] {
				t.Fatalf("rule 3: %q, and was %q", value, wants[i])
			}
			scribble(value)
		}
		roots, again := b.x.Roots(), b.x.Roots()
		want := fmt.Sprint(again)
		roots = roots[:cap(roots)]
		for i := range roots {
			roots[i] = api.Hash{0xEE}
		}
		if fmt.Sprint(again) != want {
			t.Fatal("rule 3: Roots")
		}
		b.agrees(t)
		b.save(t)
		b.reopen(t)
		b.agrees(t)
	}
}

// TestApart: trees above two stores don't touch one another, and a tree isn't touched by what is done with the store beside it.
func TestApart(t *testing.T) {
	t.Parallel()
	one, two := flatBench(t, 5), flatBench(t, 9)
	one.flatten(t, api.Hash{8}, 0)
	two.agrees(t)
	two.reset(t, api.Hash{1})
	one.agrees(t)
	at, err := one.store.Hold()
	if err != nil {
		t.Fatal(err)
	}
	one.generate(t, 4)
	one.save(t)
	if err := one.store.Release(at); err != nil {
		t.Errorf("a moment that was held isn't any more: %v", err)
	}
	if err := one.store.Release(at); !is(err, api.ErrLsmSeq) {
		t.Errorf("a moment that wasn't held is: %v", err)
	}
	if err := one.store.Release(one.store.Last()); !is(err, api.ErrLsmSeq) {
		t.Errorf("the last moment is held: %v", err)
	}
	one.agrees(t)
}

// TestErrorsLeaveNothingHeld: a call that failed at once holds no moment.
func TestErrorsLeaveNothingHeld(t *testing.T) {
	t.Parallel()
	b := flatBench(t, 5)
	b.d.Fail(1)
	if err := b.x.Save(); !is(err, api.ErrDiskIO) {
		t.Fatal(err)
	}
	for _, call := range []func() error{b.x.Save, func() error { return b.x.Reset(api.Hash{1}) }} {
		if err := call(); !is(err, api.ErrLsmReadOnly) {
			t.Errorf("%v", err)
		}
	}
	if err := b.store.Release(b.store.Last()); !is(err, api.ErrLsmSeq) {
		t.Errorf("the last moment is held: %v", err)
	}
	b.agrees(t)
}
