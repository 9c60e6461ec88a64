package compact_test

import (
	"bytes"
	"fmt"
	"math"
	"math/rand"
	"slices"
	"strings"
	"testing"

	"moraine/api"
)

// numbersOf: the tables' numbers.
func numbersOf(files []api.File) string {
	var l []string
	for _, f := range files {
		l = append(l, fmt.Sprint(f.Number))
	}
	return strings.Join(l, " ")
}

// some: a version with tables at all levels but 3.
func some() api.Version {
	return api.Version{Log: 3, Next: 99, Seq: 77, Levels: [5][]api.File{
		{file(8, 1, "m", "p"), file(9, 1, "d", "f"), file(10, 1, "e", "e")},
		{file(1, 1, "a", "c"), file(7, 1, "e", "f"), file(2, 1, "h", "k"), file(6, 1, "p", "q"), file(3, 1, "q\x00", "r")},
		{file(20, 1, "", "a"), file(21, 1, "c", "e"), file(22, 1, "f", "f"), file(23, 1, "g", "g"), file(24, 1, "k", "z")},
		nil,
		{file(40, 1, "b", "c")},
	}}
}

func TestPick(t *testing.T) {
	for _, c := range []struct {
		what         string
		level        int
		after        []byte
		upper, lower string
	}{
		// Level 0 goes from d to p: 2 lies between its tables, 6 touches it, 1 and 3 stand outside.
		{"level 0", 0, nil, "8 9 10", "7 2 6"},
		{"level 0, after is of no weight", 0, key("e", 1, api.Set), "8 9 10", "7 2 6"},
		{"level 1, the first one", 1, nil, "1", "20 21"},
		{"level 1, ahead of all", 1, key("", 9, api.Set), "1", "20 21"},
		{"level 1, within the first one", 1, key("b", 9, api.Set), "1", "20 21"},
		{"level 1, just ahead of the first one's Most", 1, key("c", 2, api.Delete), "1", "20 21"},
		{"level 1, of the same number, but Set", 1, key("c", 1, api.Set), "7", "21 22"},
		{"level 1, just behind the first one's Most", 1, key("c", 1, api.Delete), "7", "21 22"},
		{"level 1, between the first ones", 1, key("d", 5, api.Set), "7", "21 22"},
		{"level 1, at the second one's Least", 1, key("e", 9, api.Set), "7", "21 22"},
		{"level 1, at the second one's Most", 1, key("f", 1, api.Set), "2", "24"},
		{"level 1, within the third one", 1, key("i", 1, api.Set), "2", "24"},
		{"level 1, at the third one's Most", 1, key("k", 1, api.Set), "6", "24"},
		{"level 1, ahead of the last one's Least", 1, key("q", 0, api.Set), "3", "24"},
		{"level 1, ahead of the last one's Most", 1, key("r", 2, api.Set), "3", "24"},
		{"level 1, at the last one's Most", 1, key("r", 1, api.Set), "1", "20 21"},
		{"level 1, behind all", 1, key("z", 1, api.Set), "1", "20 21"},
		{"level 1, the longest key", 1, key(strings.Repeat("f", 128), 1, api.Set), "2", "24"},
		{"level 2, nothing below", 2, nil, "20", ""},
		{"level 2, the second one", 2, key("a", 0, api.Set), "21", ""},
		{"level 2, the last one", 2, key("j", 0, api.Set), "24", ""},
		// What is no internal key stands behind nothing.
		{"level 1, no bytes", 1, []byte{}, "1", "20 21"},
		{"level 1, a user key", 1, []byte("k"), "1", "20 21"},
		{"level 1, seven bytes", 1, key("", 1, api.Set)[:7], "1", "20 21"},
		{"level 1, no such kind", 1, append([]byte("k"), 2, 1, 0, 0, 0, 0, 0, 0), "1", "20 21"},
		{"level 1, too long", 1, key(strings.Repeat("k", 129), 1, api.Set), "1", "20 21"},
	} {
		task, ok, wrong := picked(t, c.what, some(), c.level, c.after)
		if upper, lower := numbersOf(task.Upper), numbersOf(task.Lower); task.Level != c.level || upper != c.upper || lower != c.lower || !ok || wrong != api.OK {
			t.Errorf("P10.2: %s: %d, %s, %s, %v, %d, want %s, %s", c.what, task.Level, upper, lower, ok, wrong, c.upper, c.lower)
		}
	}
}

// TestOverlap: of one table with one below it, by where they end.
func TestOverlap(t *testing.T) {
	for _, c := range []struct {
		upper, lower [2]string
		meet         bool
	}{
		{[2]string{"c", "e"}, [2]string{"c", "e"}, true},
		{[2]string{"c", "e"}, [2]string{"d", "d"}, true},
		{[2]string{"c", "e"}, [2]string{"a", "g"}, true},
		{[2]string{"c", "e"}, [2]string{"a", "c"}, true}, // one user key in common
		{[2]string{"c", "e"}, [2]string{"e", "g"}, true},
		{[2]string{"c", "e"}, [2]string{"a", "b"}, false},
		{[2]string{"c", "e"}, [2]string{"a", "bzz"}, false},
		{[2]string{"c", "e"}, [2]string{"e\x00", "f"}, false},
		{[2]string{"c", "e"}, [2]string{"f", "g"}, false},
		{[2]string{"", ""}, [2]string{"", ""}, true},
		{[2]string{"", ""}, [2]string{"\x00", "\x00"}, false},
		{[2]string{"c", "c\x00"}, [2]string{"c\x00", "c\x00"}, true},
		{[2]string{"c", "\x80"}, [2]string{"\x7f", "\xff"}, true},
		{[2]string{"c", "\x7f"}, [2]string{"\x80", "\xff"}, false},
	} {
		for level := range 4 {
			// The keys' numbers are of no weight, whichever stands ahead.
			for _, seq := range []uint64{0, 9, api.MaxSeq} {
				v := api.Version{Next: 9}
				v.Levels[level] = []api.File{file(1, 1, c.upper[0], c.upper[1])}
				v.Levels[level+1] = []api.File{{Number: 2, Least: key(c.lower[0], seq, api.Set), Most: key(c.lower[1], seq, api.Set)}}
				task, ok, wrong := picked(t, "two tables", v, level, nil)
				if meet := len(task.Lower) == 1; meet != c.meet || len(task.Upper) != 1 || !ok || wrong != api.OK {
					t.Errorf("P10.2: level %d: %q with %q: %v", level, c.upper, c.lower, meet)
				}
			}
		}
	}
}

func TestNoTable(t *testing.T) {
	for level := range 4 {
		v := some()
		v.Levels[level] = nil
		for _, after := range [][]byte{nil, key("a", 1, api.Set), []byte("a")} {
			if task, ok, wrong := picked(t, "a level without tables", v, level, after); !same(task, api.Task{}) || ok || wrong != api.OK {
				t.Errorf("P10.2: level %d: %v, %v, %d", level, task, ok, wrong)
			}
		}
	}
	if task, ok, wrong := picked(t, "nothing", api.Version{}, 0, nil); !same(task, api.Task{}) || ok || wrong != api.OK {
		t.Errorf("P10.2: the version without anything: %v, %v, %d", task, ok, wrong)
	}
}

func TestLevels(t *testing.T) {
	for _, level := range []int{math.MinInt, math.MinInt32, -5, -1, 0, 1, 2, 3, 4, 5, 6, 1 << 32, math.MaxInt} {
		for _, v := range []api.Version{{}, some()} {
			want, want2 := api.ErrCompactLevel, api.ErrCompactLevel
			if level >= 0 && level <= 3 {
				want = api.OK
			}
			if level >= 0 && level <= 4 {
				want2 = api.OK
			}
			if task, ok, wrong := picked(t, "levels", v, level, nil); wrong != want || wrong != api.OK && (ok || !same(task, api.Task{})) {
				t.Errorf("P10.2: level %d: %v, %v, %d, want %d", level, task, ok, wrong, want)
			}
			if l, wrong := deepened(t, "levels", v, level); wrong != want2 || wrong != api.OK && len(l) > 0 {
				t.Errorf("P10.4: level %d: %v, %d, want %d", level, l, wrong, want2)
			}
		}
	}
}

func TestDeeper(t *testing.T) {
	for level, want := range []string{
		"{a c} {e f} {h k} {p q} {q\x00 r} { a} {c e} {f f} {g g} {k z} {b c}",
		"{ a} {c e} {f f} {g g} {k z} {b c}",
		"{b c}",
		"{b c}",
		"",
	} {
		l, wrong := deepened(t, "some", some(), level)
		if got := fmt.Sprintf("%s", l); got != "["+want+"]" || wrong != api.OK {
			t.Errorf("P10.4: Deeper of level %d: %q, %d, want %q", level, got, wrong, want)
		}
	}
}

// TestTurns: going on behind the Most of what was picked, each table has its turn.
func TestTurns(t *testing.T) {
	v := some()
	var after []byte
	var turns []api.File
	for range 7 {
		task, _, _ := picked(t, "turns", v, 1, after)
		if len(task.Upper) != 1 {
			t.Fatalf("P10.2: %v", task)
		}
		after = task.Upper[0].Most
		turns = append(turns, task.Upper...)
	}
	if got := numbersOf(turns); got != "1 7 2 6 3 1 7" {
		t.Errorf("P10.2: by turns: %s", got)
	}
}

func TestDrawnPicks(t *testing.T) {
	r := rand.New(rand.NewSource(2))
	lowers := map[int]int{}
	for range 20000 {
		v := drawnVersion(r)
		if r.Intn(5) == 0 {
			v = hurtVersion(r, v)
		}
		after := drawnKey(r)
		switch files := v.Levels[1+r.Intn(4)]; {
		case r.Intn(4) == 0 && len(files) > 0:
			after = bytes.Clone(files[r.Intn(len(files))].Most)
		case r.Intn(6) == 0:
			after = after[r.Intn(len(after)):]
		}
		level := r.Intn(7) - 1
		task, _, _ := picked(t, "drawn", v, level, after)
		lowers[len(task.Lower)]++
		deepened(t, "drawn", v, level)
	}
	for n := range 4 {
		if lowers[n] < 50 {
			t.Errorf("P10.2: %d tables of the next level were drawn %d times", n, lowers[n])
		}
	}
}

// TestOrderOfLevel0: Upper has level 0's tables by their numbers, whatever their keys.
func TestOrderOfLevel0(t *testing.T) {
	r := rand.New(rand.NewSource(3))
	for range 500 {
		v := api.Version{Next: 50}
		users := []string{"a", "b", "c", "d", "e", "f", "g", "h"}
		for n := range 1 + r.Intn(6) {
			i, k := r.Intn(8), r.Intn(8)
			v.Levels[0] = append(v.Levels[0], file(n, 1, users[min(i, k)], users[max(i, k)]))
		}
		for n, u := range users {
			v.Levels[1] = append(v.Levels[1], file(20+n, 1, u, u))
		}
		task, _, _ := picked(t, "level 0", v, 0, nil)
		if !slices.IsSortedFunc(task.Upper, func(a, b api.File) int { return a.Number - b.Number }) || len(task.Upper) != len(v.Levels[0]) {
			t.Errorf("P10.2: %v", task.Upper)
		}
	}
}
