package compact_test

import (
	"fmt"
	"math"
	"math/rand"
	"testing"

	"moraine/api"
	"moraine/compact"
)

// sized: a version whose levels have tables of the given sizes.
func sized(levels ...[]int) api.Version {
	v := api.Version{Next: 1 << 20}
	number := 0
	for level, sizes := range levels {
		for _, size := range sizes {
			user := fmt.Sprintf("%06d", number)
			v.Levels[level] = append(v.Levels[level], file(number, size, user, user))
			number++
		}
	}
	return v
}

// summed: sizes of tables, each as great as may be, that have so many bytes together.
func summed(bytes int) []int {
	var l []int
	for ; bytes > most; bytes -= most {
		l = append(l, most)
	}
	return append(l, bytes)
}

func TestSizes(t *testing.T) {
	for _, c := range []struct {
		what        string
		put         func(s *api.Sizes, n int)
		least, most int
	}{
		{"Tables0", func(s *api.Sizes, n int) { s.Tables0 = n }, 1, 64},
		{"Bytes1", func(s *api.Sizes, n int) { s.Bytes1 = n }, 1, 1 << 30},
		{"Factor", func(s *api.Sizes, n int) { s.Factor = n }, 2, 16},
	} {
		for _, base := range []api.Sizes{{Tables0: 1, Bytes1: 1, Factor: 2}, {Tables0: 64, Bytes1: 1 << 30, Factor: 16}, {Tables0: 4, Bytes1: 1000, Factor: 10}} {
			for _, n := range []int{math.MinInt, math.MinInt32, -c.most, -c.least, -1, 0, c.least - 1, c.least, c.least + 1, c.most - 1, c.most, c.most + 1, 1 << 31, 1 << 32, 1<<32 + c.least, math.MaxInt} {
				s := base
				c.put(&s, n)
				want := api.OK
				if n < c.least || n > c.most {
					want = api.ErrCompactSizes
				}
				if wrong := compact.Check(s); wrong != want {
					t.Errorf("P10.1: %s: Check(%v): %d, want %d", c.what, s, wrong, want)
				}
				if _, _, wrong := scored(t, c.what, api.Version{}, s); wrong != want {
					t.Errorf("P10.1: %s: Score with %v: %d, want %d", c.what, s, wrong, want)
				}
			}
		}
	}
	if wrong := compact.Check(api.Sizes{}); wrong != api.ErrCompactSizes {
		t.Errorf("P10.1: Check of no sizes: %d", wrong)
	}
}

func TestScore(t *testing.T) {
	s := api.Sizes{Tables0: 3, Bytes1: 100, Factor: 4} // so 3 tables, and 100, 400, 1600 bytes
	none := []int{}
	for _, c := range []struct {
		what  string
		v     api.Version
		level int
		ok    bool
	}{
		{"no tables", api.Version{}, 0, false},
		{"level 0 just short", sized([]int{9999, 9999}), 0, false},
		{"level 0 just full, of tables without bytes", sized([]int{0, 0, 0}), 0, true},
		{"level 0 above", sized([]int{1, 1, 1, 1}), 0, true},
		{"level 1 just short", sized(none, []int{49, 50}), 0, false},
		{"level 1 just full", sized(none, []int{50, 50}), 1, true},
		{"level 1 above", sized(none, []int{100, 1}), 1, true},
		{"level 1 with many tables without bytes", sized(none, []int{0, 0, 0, 0, 0, 0, 0, 0}), 0, false},
		{"level 2 just short", sized(none, none, []int{399}), 0, false},
		{"level 2 just full", sized(none, none, []int{0, 400}), 2, true},
		{"level 2 above", sized(none, none, []int{401}), 2, true},
		{"level 3 just short", sized(none, none, none, []int{800, 799}), 0, false},
		{"level 3 just full", sized(none, none, none, []int{800, 800}), 3, true},
		{"level 3 above", sized(none, none, none, []int{1601}), 3, true},
		{"the last level is never full", sized(none, none, none, none, []int{most, most}), 0, false},
		{"the last level counts for no other one", sized(none, []int{100}, none, none, []int{most, most}), 1, true},
		{"all just short", sized([]int{1, 1}, []int{99}, []int{399}, []int{1599}), 0, false},
		{"all as full", sized([]int{1, 1, 1}, []int{100}, []int{400}, []int{1600}), 0, true},
		{"all but the first", sized(none, []int{100}, []int{400}, []int{1600}), 1, true},
		{"the last two", sized([]int{1}, []int{99}, []int{400}, []int{1600}), 2, true},
		{"as full, above", sized([]int{1, 1, 1}, []int{150}, []int{600}, []int{2400}), 1, true},
		{"as full as two thirds are by thirds", sized([]int{1, 1, 1, 1, 1}, []int{166}, []int{666}, []int{2666}), 0, true},
		{"just above thirds", sized([]int{1, 1, 1, 1, 1}, []int{166}, []int{666}, []int{2667}), 3, true},
		{"level 0 the fullest", sized([]int{1, 1, 1, 1}, []int{133}, []int{533}, []int{2133}), 0, true},
		{"level 1 the fullest", sized([]int{1, 1, 1, 1}, []int{134}, []int{535}, []int{2133}), 1, true},
		{"level 2 the fullest", sized([]int{1, 1, 1, 1}, []int{134}, []int{537}, []int{2147}), 2, true},
		{"level 3 the fullest", sized([]int{1, 1, 1, 1}, []int{134}, []int{537}, []int{2149}), 3, true},
		{"a later one full, the first ones not", sized([]int{1, 1}, []int{99}, none, []int{1600}), 3, true},
	} {
		level, ok, wrong := scored(t, c.what, c.v, s)
		if level != c.level || ok != c.ok || wrong != api.OK {
			t.Errorf("P10.1: %s: %d, %v, %d, want %d, %v", c.what, level, ok, wrong, c.level, c.ok)
		}
	}
}

// TestGreatScores: with the greatest sizes, numbers and factors, where quotients are rounded and products of 64 bits run over.
func TestGreatScores(t *testing.T) {
	great := api.Sizes{Tables0: 64, Bytes1: 1 << 30, Factor: 16}
	tables := func(n int) []int { return make([]int, n) }
	for _, c := range []struct {
		what  string
		v     api.Version
		level int
		ok    bool
	}{
		{"level 0 just short", sized(tables(63)), 0, false},
		{"level 0 just full", sized(tables(64)), 0, true},
		{"level 1 just short", sized(nil, []int{1<<30 - 1}), 0, false},
		{"level 1 just full", sized(nil, []int{1 << 30}), 1, true},
		{"level 2 just short", sized(nil, nil, summed(1<<34-1)), 0, false},
		{"level 2 just full", sized(nil, nil, summed(1<<34)), 2, true},
		{"level 3 just short", sized(nil, nil, nil, summed(1<<38-1)), 0, false},
		{"level 3 just full", sized(nil, nil, nil, summed(1<<38)), 3, true},
		{"level 1 full, a byte at level 3", sized(nil, summed(1<<30), nil, summed(1)), 1, true},
		{"level 2 above, level 3 just short", sized(nil, nil, summed(1<<35), summed(1<<38-1)), 2, true},
		{"all as full", sized(tables(64), summed(1<<30), summed(1<<34), summed(1<<38)), 0, true},
		{"a byte more at level 1", sized(tables(64), summed(1<<30+1), summed(1<<34+15), summed(1<<38+255)), 1, true},
		{"a byte more at level 2", sized(tables(64), summed(1<<30+1), summed(1<<34+17), summed(1<<38+271)), 2, true},
		{"a byte more at level 3", sized(tables(64), summed(1<<30+1), summed(1<<34+17), summed(1<<38+273)), 3, true},
		{"far above, as full", sized(tables(64), summed(1<<38), summed(1<<42), summed(1<<46)), 1, true},
		{"far above, a byte more", sized(tables(64), summed(1<<38), summed(1<<42), summed(1<<46+1)), 3, true},
		{"far above, a byte less", sized(tables(64), summed(1<<38-1), summed(1<<42-16), summed(1<<46-255)), 3, true},
	} {
		level, ok, wrong := scored(t, c.what, c.v, great)
		if level != c.level || ok != c.ok || wrong != api.OK {
			t.Errorf("P10.1: %s: %d, %v, %d, want %d, %v", c.what, level, ok, wrong, c.level, c.ok)
		}
	}
	// The smallest room, and the most in it.
	small := api.Sizes{Tables0: 1, Bytes1: 1, Factor: 2}
	for _, c := range []struct {
		v     api.Version
		level int
		ok    bool
	}{
		{sized(nil, []int{0}, []int{1}, []int{3}), 0, false},
		{sized(nil, []int{0}, []int{2}, []int{3}), 2, true},
		{sized(tables(1), []int{1}, []int{2}, []int{4}), 0, true},
		{sized(tables(300), summed(300), summed(600), summed(1201)), 3, true},
		{sized(tables(300), summed(1<<40), summed(1<<41), summed(1<<42+1)), 3, true},
		{sized(tables(300), summed(1<<40), summed(1<<41+1), summed(1<<42+1)), 2, true},
	} {
		level, ok, wrong := scored(t, "small", c.v, small)
		if level != c.level || ok != c.ok || wrong != api.OK {
			t.Errorf("P10.1: %.300v: %d, %v, %d, want %d, %v", c.v, level, ok, wrong, c.level, c.ok)
		}
	}
}

// wrongVersions: a version that may not be for each of manifest.Check's errors.
func wrongVersions() map[api.Errno]api.Version {
	twice, back, over := sized([]int{1, 1}), sized([]int{1, 1}), sized(nil, []int{1, 1})
	twice.Levels[0][1].Number = 0
	back.Next = 1
	over.Levels[1][1].Least = over.Levels[1][0].Least
	return map[api.Errno]api.Version{
		api.ErrManifestForm:  {Next: -1},
		api.ErrManifestTwice: twice,
		api.ErrManifestBack:  back,
		api.ErrManifestOver:  over,
	}
}

// TestWhichErrorFirst: of the sizes, of the version, of the level.
func TestWhichErrorFirst(t *testing.T) {
	good := api.Sizes{Tables0: 1, Bytes1: 1, Factor: 2}
	for want, v := range wrongVersions() {
		if level, ok, wrong := scored(t, "a wrong version", v, good); level != 0 || ok || wrong != want {
			t.Errorf("P10.1: Score of a version that may not be: %d, %v, %d, want %d", level, ok, wrong, want)
		}
		if level, ok, wrong := scored(t, "both wrong", v, api.Sizes{Tables0: 1, Bytes1: 1, Factor: 1}); level != 0 || ok || wrong != api.ErrCompactSizes {
			t.Errorf("P10.1: Score of wrong sizes and %d: %d, %v, %d", want, level, ok, wrong)
		}
		for _, level := range []int{math.MinInt, -1, 0, 1, 3, 4, 5, math.MaxInt} {
			if task, ok, wrong := picked(t, "a wrong version", v, level, nil); !same(task, api.Task{}) || ok || wrong != want {
				t.Errorf("P10.2: Pick of level %d: %v, %v, %d, want %d", level, task, ok, wrong, want)
			}
			if l, wrong := deepened(t, "a wrong version", v, level); len(l) > 0 || wrong != want {
				t.Errorf("P10.4: Deeper of level %d: %v, %d, want %d", level, l, wrong, want)
			}
		}
	}
}

func TestDrawnScores(t *testing.T) {
	r := rand.New(rand.NewSource(1))
	levels := map[string]int{}
	for range 20000 {
		v := drawnVersion(r)
		if r.Intn(4) == 0 {
			v = hurtVersion(r, v)
		}
		s := api.Sizes{Tables0: r.Intn(8), Bytes1: r.Intn(1 << r.Intn(32)), Factor: 1 + r.Intn(17)}
		level, ok, wrong := scored(t, "drawn", v, s)
		levels[fmt.Sprint(level, ok, int(wrong))]++
	}
	for _, x := range []string{"0 false 0", "0 true 0", "1 true 0", "2 true 0", "3 true 0", "0 false 90", "0 false 102"} {
		if levels[x] < 100 {
			t.Errorf("P10.1: %s was drawn %d times", x, levels[x])
		}
	}
}
