package manifest_test

import (
	"math"
	"math/rand"
	"slices"
	"strings"
	"testing"

	"moraine/api"
	"moraine/manifest"
)

type levels = [api.MaxLevels][]api.File

// at: lists of tables at one level.
func at(level int, files ...api.File) levels {
	var l levels
	l[level] = files
	return l
}

func TestNothingMayBe(t *testing.T) {
	if wrong := checked(t, "nothing", api.Version{}); wrong != api.OK {
		t.Errorf("P9.2: the version without anything: %d", wrong)
	}
}

func TestNumbersOfVersions(t *testing.T) {
	for _, c := range []struct {
		what string
		put  func(v *api.Version, n int)
		most int
	}{
		{"Log", func(v *api.Version, n int) { v.Log = n }, most},
		{"Next", func(v *api.Version, n int) { v.Next = n }, most},
		{"a table's size", func(v *api.Version, n int) { v.Next, v.Levels = 9, at(0, file(1, "a", "b")); v.Levels[0][0].Size = n }, most},
		{"a deep table's size", func(v *api.Version, n int) { v.Next, v.Levels = 9, at(4, file(1, "a", "b")); v.Levels[4][0].Size = n }, most},
		{"a table's number", func(v *api.Version, n int) { v.Next, v.Levels = most, at(1, file(n, "a", "b")) }, most - 1}, // as it is below Next
	} {
		for _, n := range []int{math.MinInt, math.MinInt32, -1, 0, 1, c.most - 1, c.most, c.most + 1, most + 1, 1 << 32, 1<<32 + 1, math.MaxInt} {
			var v api.Version
			c.put(&v, n)
			want := api.OK
			switch {
			case n < 0 || n > most:
				want = api.ErrManifestForm
			case n > c.most:
				want = api.ErrManifestBack
			}
			if wrong := checked(t, c.what, v); wrong != want {
				t.Errorf("P9.2: %s %d: %d, want %d", c.what, n, wrong, want)
			}
		}
	}
	for _, seq := range []uint64{0, 1, api.MaxSeq - 1, api.MaxSeq, api.MaxSeq + 1, 1 << 63, math.MaxUint64} {
		want := api.OK
		if seq > api.MaxSeq {
			want = api.ErrManifestForm
		}
		if wrong := checked(t, "Seq", api.Version{Seq: seq}); wrong != want {
			t.Errorf("P9.2: Seq %d: %d", seq, wrong)
		}
	}
}

func TestTwice(t *testing.T) {
	for i := range 5 {
		for k := range 5 {
			v := api.Version{Next: 9}
			v.Levels[i] = append(v.Levels[i], file(3, "a", "b"))
			v.Levels[k] = append(v.Levels[k], file(3, "c", "d"))
			if wrong := checked(t, "one number", v); wrong != api.ErrManifestTwice {
				t.Errorf("P9.2: one number at levels %d and %d: %d", i, k, wrong)
			}
			v.Levels[k][len(v.Levels[k])-1].Number = 4
			if wrong := checked(t, "two numbers", v); wrong != api.OK {
				t.Errorf("P9.2: two numbers at levels %d and %d: %d", i, k, wrong)
			}
		}
	}
	// Not side by side.
	v := api.Version{Next: 9, Levels: at(1, file(3, "a", "b"), file(4, "c", "d"), file(3, "e", "f"))}
	if wrong := checked(t, "one between", v); wrong != api.ErrManifestTwice {
		t.Errorf("P9.2: one between: %d", wrong)
	}
	v = api.Version{Next: 9, Levels: at(0, file(0, "a", "b"), file(1, "a", "b"))}
	if wrong := checked(t, "number 0", v); wrong != api.OK {
		t.Errorf("P9.2: number 0: %d", wrong)
	}
}

func TestBelowNext(t *testing.T) {
	for level := range 5 {
		for _, n := range []int{0, 1, 7, most - 1} {
			for _, next := range []int{0, n - 1, n, n + 1, most} {
				if next < 0 {
					continue
				}
				want := api.OK
				if n >= next {
					want = api.ErrManifestBack
				}
				if wrong := checked(t, "next", api.Version{Next: next, Levels: at(level, file(n, "a", "b"))}); wrong != want {
					t.Errorf("P9.2: table %d at level %d, Next %d: %d", n, level, next, wrong)
				}
			}
		}
		// The last one of some.
		v := api.Version{Next: 4, Levels: at(level, file(1, "a", "a"), file(2, "b", "b"), file(4, "c", "c"))}
		if wrong := checked(t, "the last one", v); wrong != api.ErrManifestBack {
			t.Errorf("P9.2: the last one, level %d: %d", level, wrong)
		}
	}
}

func TestOrderOfLevel0(t *testing.T) {
	for _, c := range []struct {
		numbers []int
		want    api.Errno
	}{
		{[]int{1, 2, 3}, api.OK}, {[]int{1, 2, 8}, api.OK}, {[]int{0, 7}, api.OK}, {[]int{2, 10}, api.OK},
		{[]int{2, 1}, api.ErrManifestOver}, {[]int{1, 3, 2}, api.ErrManifestOver}, {[]int{3, 1, 2}, api.ErrManifestOver}, {[]int{10, 2}, api.ErrManifestOver}, {[]int{3, 2, 1}, api.ErrManifestOver},
	} {
		for _, users := range []string{"abcdef", "fedcba", "aaaaaa", "azazaz", "afbecd"} { // whatever keys they have
			var files []api.File
			for i, n := range c.numbers {
				a, b := users[2*i:2*i+1], users[2*i+1:2*i+2]
				files = append(files, file(n, min(a, b), max(a, b)))
			}
			if wrong := checked(t, "level 0", api.Version{Next: 11, Levels: at(0, files...)}); wrong != c.want {
				t.Errorf("P9.2: level 0: %v, %s: %d", c.numbers, users, wrong)
			}
		}
	}
}

func TestOrderOfOtherLevels(t *testing.T) {
	long := strings.Repeat("k", 128)
	k := func(user string, seq uint64) []byte { return key(user, seq, api.Set) }
	f := func(n int, least, most []byte) api.File { return api.File{Number: n, Least: least, Most: most} }
	for _, c := range []struct {
		what  string
		files []api.File
		want  api.Errno
	}{
		{"one", []api.File{file(1, "a", "z")}, api.OK},
		{"apart", []api.File{file(1, "a", "b"), file(2, "c", "d")}, api.OK},
		{"apart, numbers that fall", []api.File{file(2, "a", "b"), file(1, "c", "d")}, api.OK},
		{"apart by one byte", []api.File{file(1, "a", "b"), file(2, "b\x00", "d")}, api.OK},
		{"apart, bytes as numbers", []api.File{file(1, "", "\x7f"), file(2, "\x80", "\xff")}, api.OK},
		{"apart, the longest keys", []api.File{file(1, "a", long), file(2, long[:127]+"l", "l")}, api.OK},
		{"the wrong way", []api.File{file(1, "c", "d"), file(2, "a", "b")}, api.ErrManifestOver},
		{"one of three the wrong way", []api.File{file(1, "a", "b"), file(2, "e", "f"), file(3, "c", "d")}, api.ErrManifestOver},
		{"the first of three the wrong way", []api.File{file(1, "c", "d"), file(2, "a", "b"), file(3, "e", "f")}, api.ErrManifestOver},
		{"touching in a user key", []api.File{file(1, "a", "b"), file(2, "b", "c")}, api.ErrManifestOver},
		{"touching in the user key without bytes", []api.File{file(1, "", ""), file(2, "", "c")}, api.ErrManifestOver},
		{"touching, the newer ones first", []api.File{f(1, k("a", 9), k("b", 5)), f(2, k("b", 4), k("c", 1))}, api.ErrManifestOver},
		{"touching in one key", []api.File{f(1, k("a", 9), k("b", 5)), f(2, k("b", 5), k("c", 1))}, api.ErrManifestOver},
		{"of one user key, apart by moments", []api.File{f(1, k("a", 9), k("a", 8)), f(2, k("a", 7), k("a", 6))}, api.ErrManifestOver},
		{"the same keys", []api.File{file(1, "a", "b"), file(2, "a", "b")}, api.ErrManifestOver},
		{"overlapping", []api.File{file(1, "a", "c"), file(2, "b", "d")}, api.ErrManifestOver},
		{"one in the other", []api.File{file(1, "a", "z"), file(2, "b", "c")}, api.ErrManifestOver},
		{"one in the other, it comes first", []api.File{file(1, "b", "c"), file(2, "a", "z")}, api.ErrManifestOver},
		{"one in the other, one end alike", []api.File{file(1, "a", "z"), file(2, "y", "z")}, api.ErrManifestOver},
		{"one far ahead that reaches over", []api.File{file(1, "a", "z"), file(2, "b", "c"), file(3, "d", "e")}, api.ErrManifestOver},
		{"the last two touch", []api.File{file(1, "a", "b"), file(2, "c", "d"), file(3, "e", "f"), file(4, "f", "g")}, api.ErrManifestOver},
		{"a longer user key within", []api.File{file(1, "a", "b"), file(2, "aa", "c")}, api.ErrManifestOver},
	} {
		for level := 1; level < 5; level++ {
			v := api.Version{Next: 9, Levels: at(level, c.files...)}
			if wrong := checked(t, c.what, v); wrong != c.want {
				t.Errorf("P9.2: level %d, %s: %d, want %d", level, c.what, wrong, c.want)
			}
		}
	}
	// Tables of different levels may overlap.
	v := api.Version{Next: 9}
	for level := range 5 {
		v.Levels[level] = []api.File{file(level, "a", "z")}
	}
	if wrong := checked(t, "levels", v); wrong != api.OK {
		t.Errorf("P9.2: levels that overlap: %d", wrong)
	}
}

// TestWhichErrorOfCheck: with several wrong at once, wherever each stands.
func TestWhichErrorOfCheck(t *testing.T) {
	wrongs := []api.Errno{api.ErrManifestForm, api.ErrManifestTwice, api.ErrManifestBack, api.ErrManifestOver}
	for set := 1; set < 16; set++ {
		for turn := range 2 {
			v := api.Version{Next: 20}
			where := func(i int) int { // by turns the earlier error at the lower level and at the higher one
				if turn == 0 {
					return 1 + i
				}
				return 4 - i
			}
			hurts := []func(){
				func() { v.Levels[where(0)] = []api.File{{Number: 1}} },
				func() { v.Levels[where(1)] = []api.File{file(2, "a", "b"), file(2, "c", "d")} },
				func() { v.Levels[where(2)] = []api.File{file(20, "a", "b")} },
				func() { v.Levels[where(3)] = []api.File{file(3, "a", "b"), file(4, "b", "c")} },
			}
			want := api.OK
			for i := len(hurts) - 1; i >= 0; i-- {
				if set>>i&1 == 1 {
					hurts[i]()
					want = wrongs[i]
				}
			}
			if wrong := checked(t, "several", v); wrong != want {
				t.Errorf("P9.2: errors %04b, turn %d: %d, want %d", set, turn, wrong, want)
			}
		}
	}
	for _, v := range []api.Version{{Log: -1, Next: 9}, {Log: most + 1, Next: 9}, {Next: -1}, {Seq: api.MaxSeq + 1, Next: 9}} {
		v.Levels = at(1, file(9, "a", "b"), file(9, "a", "b"))
		if wrong := checked(t, "head", v); wrong != api.ErrManifestForm {
			t.Errorf("P9.2: %v: %d", v, wrong)
		}
	}
}

// TestWholeOfEveryLevel: numbers that rise within a level, and fall from level to level.
func TestWholeOfEveryLevel(t *testing.T) {
	v := api.Version{Log: 5, Next: 90, Seq: 77}
	for level := range 5 {
		for i, user := range []string{"a", "c", "e"} {
			v.Levels[level] = append(v.Levels[level], file(50-10*level+i, user, user+"z"))
		}
	}
	if wrong := checked(t, "every level", v); wrong != api.OK {
		t.Errorf("P9.3: %d", wrong)
	}
	e, _ := manifest.Whole(v)
	var told []int
	for _, p := range e.Add {
		told = append(told, p.Level, p.File.Number)
	}
	want := []int{0, 50, 0, 51, 0, 52, 1, 40, 1, 41, 1, 42, 2, 30, 2, 31, 2, 32, 3, 20, 3, 21, 3, 22, 4, 10, 4, 11, 4, 12}
	if !slices.Equal(told, want) || e.Log != 5 || e.Next != 90 || e.Seq != 77 || len(e.Drop) > 0 {
		t.Errorf("P9.3: %v", e)
	}
}

func TestWholeOfNothing(t *testing.T) {
	for _, v := range []api.Version{{}, {Log: 1}, {Next: 1}, {Seq: 1}, {Log: most, Next: most, Seq: api.MaxSeq}} {
		e, wrong := manifest.Whole(v)
		if wrong != api.OK || !same(e, api.Edit{Log: v.Log, Next: v.Next, Seq: v.Seq}) {
			t.Errorf("P9.3: %v: %v, %d", v, e, wrong)
		}
		checked(t, "nothing", v)
	}
}

func TestDrawnVersions(t *testing.T) {
	r := rand.New(rand.NewSource(3))
	count := map[api.Errno]int{}
	for range 20000 {
		v := drawnVersion(r)
		if wrong := checked(t, "drawn", v); wrong != api.OK {
			t.Fatalf("P9.5: %v: %d", v, wrong)
		}
		for range 1 + r.Intn(3) {
			v = hurtVersion(r, v)
		}
		count[checked(t, "hurt", v)]++
	}
	for _, wrong := range []api.Errno{api.OK, api.ErrManifestForm, api.ErrManifestTwice, api.ErrManifestBack, api.ErrManifestOver} {
		if count[wrong] < 200 {
			t.Errorf("%d of the drawn versions are %d: too few", count[wrong], wrong)
		}
	}
}
