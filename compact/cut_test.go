package compact_test

import (
	"fmt"
	"math"
	"math/rand"
	"slices"
	"strings"
	"testing"

	"moraine/api"
)

// shortPieces: pieces with a stroke between them.
func shortPieces(pieces [][]api.KV) string {
	var s []string
	for _, p := range pieces {
		s = append(s, short(p))
	}
	return strings.Join(s, " | ")
}

// sizedEntry: an entry of so many bytes, of a user key of one.
func sizedEntry(user string, seq uint64, bytes int) api.KV {
	return api.KV{Key: key(user, seq, api.Set), Value: make([]byte, bytes-9)}
}

func TestCut(t *testing.T) {
	tens := list(sizedEntry("a", 1, 10), sizedEntry("b", 1, 10), sizedEntry("c", 1, 10), sizedEntry("d", 1, 10))
	mixed := list(sizedEntry("a", 1, 30), sizedEntry("b", 1, 9), sizedEntry("c", 1, 9), sizedEntry("d", 1, 40), sizedEntry("e", 1, 10))
	many := list(sizedEntry("a", 1, 10), sizedEntry("b", 5, 10), sizedEntry("b", 4, 10), sizedEntry("b", 3, 10), sizedEntry("b", 2, 10), sizedEntry("c", 2, 10), sizedEntry("c", 1, 10), sizedEntry("d", 1, 10))
	for _, c := range []struct {
		what string
		l    []api.KV
		size int
		want string
	}{
		{"nothing", nil, 1, ""},
		{"nothing, by nothing", nil, 0, ""},
		{"an empty list", []api.KV{}, 100, ""},
		{"one entry", tens[:1], 1, "a1"},
		{"one entry, far below", tens[:1], math.MaxInt, "a1"},
		{"below 1", tens, 0, "a1 | b1 | c1 | d1"},
		{"far below 1", tens, math.MinInt, "a1 | b1 | c1 | d1"},
		{"-1", many, -1, "a1 | b5 b4 b3 b2 | c2 c1 | d1"},
		{"1", tens, 1, "a1 | b1 | c1 | d1"},
		{"a byte less than one", tens, 9, "a1 | b1 | c1 | d1"},
		{"as one", tens, 10, "a1 | b1 | c1 | d1"},
		{"a byte more than one", tens, 11, "a1 b1 | c1 d1"},
		{"a byte less than two", tens, 19, "a1 b1 | c1 d1"},
		{"as two", tens, 20, "a1 b1 | c1 d1"},
		{"a byte more than two", tens, 21, "a1 b1 c1 | d1"},
		{"as three", tens, 30, "a1 b1 c1 | d1"},
		{"a byte more than three", tens, 31, "a1 b1 c1 d1"},
		{"as all", tens, 40, "a1 b1 c1 d1"},
		{"a byte more than all", tens, 41, "a1 b1 c1 d1"},
		{"far above", tens, math.MaxInt, "a1 b1 c1 d1"},
		{"each piece begins with nothing", mixed, 19, "a1 | b1 c1 d1 | e1"},
		{"as two small ones", mixed, 18, "a1 | b1 c1 | d1 | e1"},
		{"as the first one", mixed, 30, "a1 | b1 c1 d1 | e1"},
		{"a byte more than the first one", mixed, 31, "a1 b1 | c1 d1 | e1"},
		{"many of one user key by 1", many, 1, "a1 | b5 b4 b3 b2 | c2 c1 | d1"},
		{"the end within many", many, 30, "a1 b5 b4 b3 b2 | c2 c1 d1"},
		{"the end at many's beginning", many, 10, "a1 | b5 b4 b3 b2 | c2 c1 | d1"},
		{"the end at many's end", many, 50, "a1 b5 b4 b3 b2 | c2 c1 d1"},
		{"the end behind many", many, 51, "a1 b5 b4 b3 b2 c2 c1 | d1"},
		{"the end within the next many", many, 60, "a1 b5 b4 b3 b2 c2 c1 | d1"},
		{"one user key alone", many[1:5], 1, "b5 b4 b3 b2"},
		{"the empty user key", list(set("", 2), set("", 1), set("a", 1)), 1, "2 1 | a1"},
		{"user keys that begin alike", list(set("a", 1), set("a\x00", 1), set("aa", 1)), 1, "a1 | a\x001 | aa1"},
		{"deletes, by their keys alone", list(del("a", 1), del("b", 1), del("c", 1)), 18, "a1- b1- | c1-"},
		{"Set and Delete of one number", list(set("a", 1), del("a", 1), del("b", 1)), 1, "a1 a1- | b1-"},
	} {
		pieces, wrong := cutUp(t, c.what, c.l, c.size)
		if got := shortPieces(pieces); got != c.want || wrong != api.OK {
			t.Errorf("P10.4: %s: %q, %d, want %q", c.what, got, wrong, c.want)
		}
	}
}

func TestDrawnCuts(t *testing.T) {
	r := rand.New(rand.NewSource(7))
	counts := map[int]int{}
	for range 20000 {
		l, ok := allOf(drawnLists(r, 1))
		if !ok {
			t.Fatal("drawn lists don't rise")
		}
		if r.Intn(5) == 0 {
			l = hurtLists(r, [][]api.KV{l})[0]
		}
		pieces, _ := cutUp(t, "drawn", l, r.Intn(1<<r.Intn(9))-1)
		counts[len(pieces)]++
	}
	for n := range 8 {
		if counts[n] < 100 {
			t.Errorf("P10.4: %d pieces were drawn %d times", n, counts[n])
		}
	}
}

func TestView(t *testing.T) {
	bad := func(b ...byte) api.KV { return api.KV{Key: b, Value: []byte("bad")} }
	l := list(bad(), set("", 4), bad('a'), set("a", 9), set("a", 7), del("a", 5), set("a", 3), bad('b', 9, 9, 0, 0, 0, 0, 0, 0), set("b", 2), set("b", 2), set("c", 0))
	for _, c := range []struct {
		user string
		seq  uint64
		want string
		ok   bool
	}{
		{"a", 0, "", false}, {"a", 2, "", false}, {"a", 3, "a3", true}, {"a", 4, "a3", true},
		{"a", 5, "", false}, {"a", 6, "", false}, {"a", 7, "a7", true}, {"a", 8, "a7", true},
		{"a", 9, "a9", true}, {"a", 10, "a9", true}, {"a", api.MaxSeq, "a9", true}, {"a", math.MaxUint64, "a9", true},
		{"", 3, "", false}, {"", 4, "4", true}, {"", math.MaxUint64, "4", true},
		{"b", 1, "", false}, {"b", 2, "b2", true}, {"b", 9, "b2", true},
		{"c", 0, "c0", true}, {"c", 1, "c0", true},
		{"ab", 9, "", false}, {"d", 9, "", false}, {"a\x00", 9, "", false}, {strings.Repeat("a", 128), 9, "", false}, {strings.Repeat("a", 500), 9, "", false},
		{string(key("a", 9, api.Set)), 9, "", false},
	} {
		if v, ok := viewed(t, "some", l, c.user, c.seq); v != c.want || ok != c.ok {
			t.Errorf("P10.5: %q at %d: %q, %v, want %q, %v", c.user, c.seq, v, ok, c.want, c.ok)
		}
	}
	for _, l := range [][]api.KV{nil, {}, {bad()}, {bad('a')}} {
		if v, ok := viewed(t, "nothing", l, "a", 9); v != "" || ok {
			t.Errorf("P10.5: %s: %q, %v", told(l), v, ok)
		}
	}
}

// TestViewTakesTheFirst: lists need not rise: the first one counts, not the newest.
func TestViewTakesTheFirst(t *testing.T) {
	for _, c := range []struct {
		l    []api.KV
		seq  uint64
		want string
		ok   bool
	}{
		{list(set("a", 1), set("a", 9)), 9, "a1", true},
		{list(set("b", 1), set("a", 2)), 9, "a2", true},
		{list(del("a", 1), set("a", 9)), 9, "", false},
		{list(set("a", 9), del("a", 1)), 5, "", false},
		{list(del("a", 5), set("a", 5)), 5, "", false},
		{list(set("a", 5), del("a", 5)), 5, "a5", true},
		{list(api.KV{Key: key("a", 5, api.Set)}), 5, "", true}, // a value without bytes is one
		{list(api.KV{Key: key("a", 5, api.Delete), Value: []byte("x")}), 5, "", false},
	} {
		if v, ok := viewed(t, "not in order", c.l, "a", c.seq); v != c.want || ok != c.ok {
			t.Errorf("P10.5: %s at %d: %q, %v, want %q, %v", told(c.l), c.seq, v, ok, c.want, c.ok)
		}
	}
}

func TestDrawnViews(t *testing.T) {
	r := rand.New(rand.NewSource(8))
	found := map[string]int{}
	for range 20000 {
		l := slices.Concat(hurtLists(r, drawnLists(r, 1))...)
		user := drawnUser(r)
		if len(l) > 0 && r.Intn(3) > 0 {
			user = partsOf(l[r.Intn(len(l))].Key).user
		}
		_, ok := viewed(t, "drawn", l, user, uint64(r.Intn(9)))
		found[fmt.Sprint(ok)]++
	}
	if found["true"] < 2000 || found["false"] < 2000 {
		t.Errorf("P10.5: %v", found)
	}
}
