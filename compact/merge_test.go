package compact_test

import (
	"fmt"
	"math"
	"math/rand"
	"slices"
	"strings"
	"testing"

	"moraine/api"
	"moraine/compact"
)

// short: entries as a user key, a number, and - for those that delete.
func short(l []api.KV) string {
	var s []string
	for _, x := range l {
		p := partsOf(x.Key)
		s = append(s, fmt.Sprint(p.user, p.seq)+[]string{"-", ""}[p.kind])
	}
	return strings.Join(s, " ")
}

func TestMerge(t *testing.T) {
	a531 := list(set("a", 5), set("a", 3), del("a", 1))
	for _, c := range []struct {
		what   string
		lists  [][]api.KV
		oldest uint64
		deeper []api.Span
		want   string
	}{
		{"no lists", nil, 0, nil, ""},
		{"an empty list", [][]api.KV{{}}, 9, nil, ""},
		{"empty lists", [][]api.KV{nil, {}, nil}, 9, []api.Span{span("a", "z")}, ""},
		{"one among empty ones", [][]api.KV{nil, list(set("a", 1)), {}}, 9, nil, "a1"},
		{"the chapter's first example", [][]api.KV{a531}, 4, nil, "a5 a3"},
		{"the chapter's second example", [][]api.KV{a531}, 5, nil, "a5"},
		{"the chapter's third example", [][]api.KV{list(del("a", 2))}, 9, nil, ""},
		{"oldest 0", [][]api.KV{a531}, 0, nil, "a5 a3 a1-"},
		{"oldest at the delete", [][]api.KV{a531}, 1, nil, "a5 a3"},
		{"oldest at the delete, something deeper", [][]api.KV{a531}, 1, []api.Span{span("a", "a")}, "a5 a3 a1-"},
		{"oldest ahead of the second one", [][]api.KV{a531}, 2, nil, "a5 a3"},
		{"oldest at the second one", [][]api.KV{a531}, 3, nil, "a5 a3"},
		{"oldest far above", [][]api.KV{a531}, math.MaxUint64, nil, "a5"},
		{"a delete that nothing stands below hides others still", [][]api.KV{list(set("a", 9), del("a", 5), set("a", 4), set("a", 2))}, 6, nil, "a9"},
		{"a delete with something deeper hides them too", [][]api.KV{list(set("a", 9), del("a", 5), set("a", 4), set("a", 2))}, 6, []api.Span{span("", "b")}, "a9 a5-"},
		{"a delete above oldest stays", [][]api.KV{list(del("a", 5), set("a", 4))}, 4, nil, "a5- a4"},
		{"deletes above oldest hide nothing", [][]api.KV{list(del("a", 5), del("a", 4), del("a", 3), del("a", 2))}, 3, nil, "a5- a4-"},
		{"Set and Delete of one number", [][]api.KV{list(set("a", 5), del("a", 5))}, 4, nil, "a5 a5-"},
		{"Set and Delete of one number, not above oldest", [][]api.KV{list(set("a", 5), del("a", 5))}, 5, []api.Span{span("a", "a")}, "a5"},
		{"Set and Delete of one number in two lists", [][]api.KV{list(del("a", 5)), list(set("a", 5))}, 4, nil, "a5 a5-"},
		{"number 0 isn't above oldest 0", [][]api.KV{list(set("a", 0), del("b", 0))}, 0, nil, "a0"},
		{"the greatest number", [][]api.KV{list(set("a", api.MaxSeq), del("a", api.MaxSeq-1))}, api.MaxSeq - 1, nil, "a72057594037927935"},
		{"the greatest number, oldest at it", [][]api.KV{list(del("a", api.MaxSeq), set("a", 0))}, api.MaxSeq, nil, ""},
		{"one user key in many lists", [][]api.KV{list(set("a", 3)), list(set("a", 9), set("a", 1)), list(set("a", 5)), list(del("a", 4))}, 4, nil, "a9 a5"},
		{"user keys that begin alike", [][]api.KV{list(set("a", 1), set("aa", 9)), list(set("", 2), set("a", 3), set("a\x00", 1))}, 9, nil, "2 a3 a\x001 aa9"},
		{"user keys apart hide nothing of one another", [][]api.KV{list(set("a", 1), set("b", 1)), list(set("c", 1), set("d", 1))}, 9, nil, "a1 b1 c1 d1"},
		{"the empty user key", [][]api.KV{list(set("", 3), set("", 2), del("", 1))}, 2, nil, "3 2"},
		{"a delete of the empty user key", [][]api.KV{list(del("", 3), set("a", 2))}, 9, nil, "a2"},
		{"a delete of the empty user key in a span", [][]api.KV{list(del("", 3), set("a", 2))}, 9, []api.Span{span("", "")}, "3- a2"},
		{"many lists", [][]api.KV{list(set("d", 1)), list(set("b", 2), set("e", 1)), nil, list(set("a", 1)), list(set("c", 1), set("f", 1), set("g", 1))}, 0, nil, "a1 b2 c1 d1 e1 f1 g1"},
	} {
		l, wrong := merged(t, c.what, c.lists, c.oldest, c.deeper)
		if got := short(l); got != c.want || wrong != api.OK {
			t.Errorf("P10.3: %s: %q, %d, want %q", c.what, got, wrong, c.want)
		}
	}
}

func TestSpans(t *testing.T) {
	deletes := list(del("", 1), del("a", 1), del("b", 1), del("b\x00", 1), del("c", 1), del("d", 1), del("d\x00", 1), del("e", 1), del("\xff", 1))
	for _, c := range []struct {
		what   string
		deeper []api.Span
		want   string
	}{
		{"no span", nil, ""},
		{"from b to d", []api.Span{span("b", "d")}, "b1- b\x001- c1- d1-"},
		{"one user key", []api.Span{span("b", "b")}, "b1-"},
		{"one that isn't there", []api.Span{span("bb", "bb")}, ""},
		{"one around it", []api.Span{span("bb", "cc")}, "c1-"},
		{"the wrong way round", []api.Span{span("d", "b")}, ""},
		{"the wrong way round, with another one", []api.Span{span("b", "a"), span("b", "b"), span("e", "")}, "b1-"},
		{"the empty one", []api.Span{span("", "")}, "1-"},
		{"nil", []api.Span{{}}, "1-"},
		{"from the empty one on", []api.Span{span("", "a")}, "1- a1-"},
		{"two, not in order", []api.Span{span("e", "e"), span("a", "b")}, "a1- b1- e1-"},
		{"two that touch", []api.Span{span("c", "d"), span("a", "c")}, "a1- b1- b\x001- c1- d1-"},
		{"one within another one", []api.Span{span("a", "d"), span("b", "b")}, "a1- b1- b\x001- c1- d1-"},
		{"one with a gap behind it", []api.Span{span("a", "a"), span("d\x00", "e")}, "a1- d\x001- e1-"},
		{"of bytes as numbers", []api.Span{span("\x7f", "\xff\xff")}, "\xff1-"},
		{"longer than a key may be", []api.Span{span("a"+strings.Repeat("z", 300), "c"+strings.Repeat("z", 300))}, "b1- b\x001- c1-"},
		{"one twice", []api.Span{span("b", "c"), span("b", "c")}, "b1- b\x001- c1-"},
	} {
		for oldest := range uint64(2) {
			want := c.want
			if oldest == 0 { // above it all stay
				want = short(deletes)
			}
			l, wrong := merged(t, c.what, [][]api.KV{deletes}, oldest, c.deeper)
			if got := short(l); got != want || wrong != api.OK {
				t.Errorf("P10.3: %s, oldest %d: %q, %d, want %q", c.what, oldest, got, wrong, want)
			}
		}
	}
}

// wrongLists: lists of which none may be merged or cut.
func wrongLists() map[string][]api.KV {
	k := func(b []byte) api.KV { return api.KV{Key: b, Value: []byte("v")} }
	return map[string][]api.KV{
		"falling user keys":              list(set("b", 1), set("a", 1)),
		"falling at the end":             list(set("a", 1), set("c", 1), set("d", 1), set("b", 1)),
		"one key twice":                  list(set("a", 1), set("a", 1)),
		"one key twice, not neighbours":  list(set("a", 1), set("b", 1), set("a", 1)),
		"rising numbers of one user key": list(set("a", 1), set("a", 2)),
		"Delete ahead of Set":            list(del("a", 1), set("a", 1)),
		"no bytes":                       list(k(nil)),
		"seven bytes":                    list(k(make([]byte, 7))),
		"no such kind":                   list(k([]byte{2, 0, 0, 0, 0, 0, 0, 0})),
		"no such kind, behind others":    list(set("a", 1), k([]byte{'b', 255, 0, 0, 0, 0, 0, 0, 0})),
		"a user key of 129 bytes":        list(k(key(strings.Repeat("a", 129), 1, api.Set))),
		"no key ahead of others":         list(k([]byte("x")), set("a", 1)),
		"no key between others":          list(set("a", 1), k([]byte("x")), set("b", 1)),
		"no key behind others":           list(set("a", 1), set("b", 1), k([]byte("zz"))),
		"a longer one ahead":             list(set("aa", 1), set("a", 9)),
		"bytes as signed numbers":        list(set("\x80", 1), set("\x7f", 1)),
	}
}

func TestWrongLists(t *testing.T) {
	for what, l := range wrongLists() {
		good := list(set("k", 5), set("l", 5))
		for _, lists := range [][][]api.KV{{l}, {l, good}, {good, l}, {nil, good, l, nil}} {
			for _, oldest := range []uint64{0, 9} {
				if got, wrong := merged(t, what, lists, oldest, nil); len(got) > 0 || wrong != api.ErrCompactOrder {
					t.Errorf("P10.3: %s: %s, %d", what, told(got), wrong)
				}
			}
		}
		for _, size := range []int{0, 1, 1 << 40} {
			if got, wrong := cutUp(t, what, l, size); len(got) > 0 || wrong != api.ErrCompactOrder {
				t.Errorf("P10.4: %s: %s, %d", what, told(got...), wrong)
			}
		}
	}
	for what, lists := range map[string][][]api.KV{
		"two lists alike":                {list(set("a", 1)), list(set("a", 1))},
		"one key of several":             {list(set("a", 3), set("b", 2), set("c", 1)), list(set("", 1), set("b", 2))},
		"the last of one, another first": {list(set("a", 3), set("b", 2)), list(set("b", 2), set("c", 2))},
		"the first and the third one":    {list(set("a", 1)), list(set("b", 1)), list(set("a", 1), set("c", 1))},
		"with other values":              {list(set("a", 1)), list(api.KV{Key: key("a", 1, api.Set), Value: []byte("other")})},
		"one that would go":              {list(set("a", 5), del("a", 1)), list(del("a", 1), set("b", 1))},
		"the empty user key":             {list(set("", 0)), list(set("", 0))},
		"a whole list twice":             {list(set("a", 1), set("b", 1)), nil, list(set("a", 1), set("b", 1))},
	} {
		if got, wrong := merged(t, what, lists, 9, nil); len(got) > 0 || wrong != api.ErrCompactOrder {
			t.Errorf("P10.3: %s: %s, %d", what, told(got), wrong)
		}
	}
}

// TestLongestKey: a user key of 128 bytes, and values of any length.
func TestLongestKey(t *testing.T) {
	long := strings.Repeat("\xff", 128)
	great := api.KV{Key: key(long, api.MaxSeq, api.Set), Value: make([]byte, 3*api.MaxValue)}
	value := api.KV{Key: key(long, 7, api.Delete), Value: []byte("a delete's value")}
	l, wrong := merged(t, "the longest", [][]api.KV{{value}, {great}}, 0, nil)
	if len(l) != 2 || !same(l[0], great) || !same(l[1], value) || wrong != api.OK {
		t.Errorf("P10.3: %d entries, %d", len(l), wrong)
	}
	if pieces, wrong := cutUp(t, "the longest", l, 1); len(pieces) != 1 || wrong != api.OK {
		t.Errorf("P10.4: %d pieces, %d", len(pieces), wrong)
	}
	if _, ok := viewed(t, "the longest", l, long, 7); ok {
		t.Errorf("P10.5: a delete's value is told")
	}
	if v, ok := viewed(t, "the longest", l, long, math.MaxUint64); len(v) != 3*api.MaxValue || !ok {
		t.Errorf("P10.5: %d bytes, %v", len(v), ok)
	}
}

// TestManyLists: as many as the heap must turn over often, in any order.
func TestManyLists(t *testing.T) {
	r := rand.New(rand.NewSource(4))
	for range 30 {
		lists := make([][]api.KV, 100)
		for i := range 2000 {
			n := r.Intn(len(lists))
			lists[n] = append(lists[n], set(fmt.Sprintf("%03d", i/3), uint64(3-i%3)))
		}
		l, wrong := compact.Merge(lists, 0, nil)
		if len(l) != 2000 || !risesByWords(l) || wrong != api.OK {
			t.Fatalf("P10.3: %d entries, %d", len(l), wrong)
		}
		if l, wrong = compact.Merge(lists, 3, nil); len(l) != 667 || !risesByWords(l) || wrong != api.OK {
			t.Fatalf("P10.3: %d entries, %d", len(l), wrong)
		}
	}
}

func TestDrawnMerges(t *testing.T) {
	r := rand.New(rand.NewSource(5))
	good := 0
	for range 20000 {
		lists := drawnLists(r, 1)
		if r.Intn(4) == 0 {
			lists = hurtLists(r, lists)
		}
		if _, wrong := merged(t, "drawn", lists, drawnOldest(r, 1), drawnSpans(r)); wrong == api.OK {
			good++
		}
	}
	if good < 15000 || good > 19000 {
		t.Errorf("P10.3: %d of 20000 were merged", good)
	}
}

// belowOf: entries of user keys, in order, with lower sequence numbers than least.
func belowOf(r *rand.Rand, users []string, least uint64) []api.KV {
	var l []api.KV
	for _, u := range users {
		for seq := least - 1; seq > 0; seq-- {
			if r.Intn(3) == 0 {
				l = append(l, api.KV{Key: key(u, seq, r.Intn(2)), Value: []byte(drawnUser(r))})
			}
		}
	}
	return l
}

// TestWhatIsSeen: P10.6: who looks from oldest on sees the same behind a merge as ahead of it.
func TestWhatIsSeen(t *testing.T) {
	const least = 5 // below it stand the entries of deeper tables
	r := rand.New(rand.NewSource(6))
	var users []string
	for _, a := range []string{"", "\x00", "a", "b", "c", "\xff"} {
		for _, b := range []string{"", "\x00", "a", "b", "c", "\xff"} {
			users = append(users, a+b)
		}
	}
	slices.Sort(users)
	users = slices.Compact(users)
	gone, covered := 0, 0
	for range 2500 {
		lists, oldest, deeper := drawnLists(r, least), drawnOldest(r, least), drawnSpans(r)
		all, _ := allOf(lists)
		l, wrong := compact.Merge(lists, oldest, deeper)
		if wrong != api.OK {
			t.Fatalf("P10.3: %s: %d", told(lists...), wrong)
		}
		gone += len(all) - len(l)
		in := slices.DeleteFunc(slices.Clone(users), func(u string) bool { return !inSpan(u, deeper) })
		covered += len(in)
		below := belowOf(r, in, least)
		for _, u := range users {
			for _, seq := range []uint64{oldest, oldest + 1, oldest + 2, oldest + 5, api.MaxSeq, math.MaxUint64} {
				if seq < oldest {
					continue
				}
				if a, b := seen(l, u, seq), seen(all, u, seq); a != b && !inSpan(u, deeper) {
					t.Fatalf("P10.6: Merge(%s, %d, %s): %q at %d is %s, was %s", told(lists...), oldest, deeper, u, seq, a, b)
				}
				if a, b := seen(slices.Concat(l, below), u, seq), seen(slices.Concat(all, below), u, seq); a != b {
					t.Fatalf("P10.6: Merge(%s, %d, %s) over %s: %q at %d is %s, was %s", told(lists...), oldest, deeper, told(below), u, seq, a, b)
				}
			}
		}
	}
	if gone < 2500 || covered < 2500 {
		t.Errorf("P10.6: %d entries went, %d user keys were covered", gone, covered)
	}
}

// seen: View's answer as a text.
func seen(l []api.KV, user string, seq uint64) string {
	v, ok := compact.View(l, []byte(user), seq)
	return fmt.Sprintf("%q %v", v, ok)
}
