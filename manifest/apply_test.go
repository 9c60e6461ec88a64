package manifest_test

import (
	"fmt"
	"math/rand"
	"testing"

	"moraine/api"
	"moraine/manifest"
)

// some: a version with tables at three levels.
func some() api.Version {
	return api.Version{Log: 4, Next: 20, Seq: 100, Levels: levels{
		0: {file(3, "a", "z"), file(8, "m", "n"), file(9, "b", "c")},
		1: {file(7, "c", "e"), file(5, "g", "i"), file(6, "k", "m")},
		3: {file(2, "a", "z")},
	}}
}

// onward: an edit that changes nothing of some, but what it is told.
func onward(drop []api.Gone, add ...api.Placed) api.Edit {
	return api.Edit{Log: 4, Next: 20, Seq: 100, Drop: drop, Add: add}
}

func gone(level, number int) api.Gone { return api.Gone{Level: level, Number: number} }

// places: a version's tables in short.
func places(v api.Version) string {
	s := ""
	for level, files := range v.Levels {
		for _, f := range files {
			s += fmt.Sprint(level, ":", f.Number, " ")
		}
	}
	return s
}

func TestApply(t *testing.T) {
	for _, c := range []struct {
		what string
		e    api.Edit
		want string
	}{
		{"nothing", onward(nil), "0:3 0:8 0:9 1:7 1:5 1:6 3:2 "},
		{"drop one", onward([]api.Gone{gone(1, 5)}), "0:3 0:8 0:9 1:7 1:6 3:2 "},
		{"drop the first and the last", onward([]api.Gone{gone(0, 9), gone(0, 3)}), "0:8 1:7 1:5 1:6 3:2 "},
		{"drop a level", onward([]api.Gone{gone(3, 2)}), "0:3 0:8 0:9 1:7 1:5 1:6 "},
		{"drop all", onward([]api.Gone{gone(3, 2), gone(1, 6), gone(1, 7), gone(0, 8), gone(0, 3), gone(1, 5), gone(0, 9)}), ""},
		{"add ahead, level 0", onward(nil, placed(0, file(1, "x", "y"))), "0:1 0:3 0:8 0:9 1:7 1:5 1:6 3:2 "},
		{"add number 0", onward(nil, placed(0, file(0, "x", "y"))), "0:0 0:3 0:8 0:9 1:7 1:5 1:6 3:2 "},
		{"add between, level 0", onward(nil, placed(0, file(4, "a", "b"))), "0:3 0:4 0:8 0:9 1:7 1:5 1:6 3:2 "},
		{"add behind, level 0", onward(nil, placed(0, file(19, "", ""))), "0:3 0:8 0:9 0:19 1:7 1:5 1:6 3:2 "},
		{"add ahead, level 1", onward(nil, placed(1, file(10, "a", "b"))), "0:3 0:8 0:9 1:10 1:7 1:5 1:6 3:2 "},
		{"add between, level 1", onward(nil, placed(1, file(10, "j", "j"))), "0:3 0:8 0:9 1:7 1:5 1:10 1:6 3:2 "},
		{"add behind, level 1", onward(nil, placed(1, file(10, "n", "z"))), "0:3 0:8 0:9 1:7 1:5 1:6 1:10 3:2 "},
		{"add to empty levels", onward(nil, placed(4, file(11, "b", "z")), placed(2, file(10, "a", "z")), placed(4, file(12, "", "a"))), "0:3 0:8 0:9 1:7 1:5 1:6 2:10 3:2 4:12 4:11 "},
		{"add many, in no order", onward(nil, placed(1, file(10, "n", "z")), placed(0, file(4, "", "")), placed(1, file(13, "", "b")), placed(0, file(1, "", "")), placed(1, file(12, "f", "f")), placed(0, file(14, "", ""))), "0:1 0:3 0:4 0:8 0:9 0:14 1:13 1:7 1:12 1:5 1:6 1:10 3:2 "},
		{"drop and add again", onward([]api.Gone{gone(1, 5)}, placed(1, file(5, "g", "i"))), "0:3 0:8 0:9 1:7 1:5 1:6 3:2 "},
		{"drop and add elsewhere", onward([]api.Gone{gone(1, 5)}, placed(2, file(5, "a", "z"))), "0:3 0:8 0:9 1:7 1:6 2:5 3:2 "},
		{"one takes the place of another", onward([]api.Gone{gone(1, 5)}, placed(1, file(15, "f", "j"))), "0:3 0:8 0:9 1:7 1:15 1:6 3:2 "},
		{"two levels become one", onward([]api.Gone{gone(0, 3), gone(0, 8), gone(0, 9), gone(1, 7), gone(1, 5), gone(1, 6)}, placed(1, file(11, "h", "z")), placed(1, file(10, "a", "g"))), "1:10 1:11 3:2 "},
		{"two trade levels", onward([]api.Gone{gone(0, 3), gone(3, 2)}, placed(0, file(2, "a", "z")), placed(3, file(3, "a", "z"))), "0:2 0:8 0:9 1:7 1:5 1:6 3:3 "},
	} {
		v, wrong := applied(t, c.what, some(), c.e)
		if places(v) != c.want || wrong != api.OK {
			t.Errorf("P9.3: %s: %s, %d, want %s", c.what, places(v), wrong, c.want)
		}
	}
}

func TestWhatIsDropped(t *testing.T) {
	for _, c := range []struct {
		what string
		drop []api.Gone
		add  []api.Placed
	}{
		{"no such number", []api.Gone{gone(1, 4)}, nil},
		{"no such number, below all", []api.Gone{gone(0, 0)}, nil},
		{"a number above Next", []api.Gone{gone(1, 21)}, nil},
		{"the greatest number", []api.Gone{gone(1, most)}, nil},
		{"at another level", []api.Gone{gone(0, 5)}, nil},
		{"at a level without anything", []api.Gone{gone(2, 5)}, nil},
		{"at the level above it", []api.Gone{gone(4, 2)}, nil},
		{"twice", []api.Gone{gone(1, 5), gone(1, 5)}, nil},
		{"twice, another one between", []api.Gone{gone(1, 5), gone(1, 6), gone(1, 5)}, nil},
		{"at its level and at another one", []api.Gone{gone(1, 5), gone(2, 5)}, nil},
		{"the last of some", []api.Gone{gone(1, 5), gone(1, 6), gone(1, 12)}, nil},
		{"the first of some", []api.Gone{gone(1, 12), gone(1, 5), gone(1, 6)}, nil},
		{"what it adds itself", []api.Gone{gone(1, 12)}, []api.Placed{placed(1, file(12, "n", "o"))}},
		{"twice, and adds it again", []api.Gone{gone(1, 5), gone(1, 5)}, []api.Placed{placed(1, file(5, "g", "i"))}},
		{"twice, and adds it twice", []api.Gone{gone(1, 5), gone(1, 5)}, []api.Placed{placed(1, file(5, "g", "i")), placed(2, file(5, "g", "i"))}},
		{"one twice and one not at all", []api.Gone{gone(1, 5), gone(1, 5), gone(4, 4)}, nil},
	} {
		if _, wrong := applied(t, c.what, some(), onward(c.drop, c.add...)); wrong != api.ErrManifestNone {
			t.Errorf("P9.3: drops %s: %d", c.what, wrong)
		}
	}
	if _, wrong := applied(t, "of nothing", api.Version{}, api.Edit{Drop: []api.Gone{gone(0, 0)}}); wrong != api.ErrManifestNone {
		t.Errorf("P9.3: drops of nothing: %d", wrong)
	}
}

func TestBackAndOn(t *testing.T) {
	for _, log := range []int{0, 3, 4, 5, most} {
		for _, next := range []int{0, 19, 20, 21, most} {
			for _, seq := range []uint64{0, 99, 100, 101, api.MaxSeq} {
				want := api.OK
				if log < 4 || next < 20 || seq < 100 {
					want = api.ErrManifestBack
				}
				v, wrong := applied(t, "back", some(), api.Edit{Log: log, Next: next, Seq: seq})
				if wrong != want || want == api.OK && (v.Log != log || v.Next != next || v.Seq != seq) {
					t.Errorf("P9.3: Log %d, Next %d, Seq %d: %d", log, next, seq, wrong)
				}
			}
		}
	}
}

func TestWhatIsAdded(t *testing.T) {
	for _, c := range []struct {
		what string
		add  []api.Placed
		want api.Errno
	}{
		{"a number that is there", []api.Placed{placed(1, file(5, "n", "o"))}, api.ErrManifestTwice},
		{"a number that is there at another level", []api.Placed{placed(4, file(5, "n", "o"))}, api.ErrManifestTwice},
		{"a number that is there, level 0", []api.Placed{placed(0, file(8, "n", "o"))}, api.ErrManifestTwice},
		{"one number twice", []api.Placed{placed(4, file(12, "n", "o")), placed(4, file(12, "p", "q"))}, api.ErrManifestTwice},
		{"one number twice, level 0", []api.Placed{placed(0, file(12, "n", "o")), placed(0, file(12, "n", "o"))}, api.ErrManifestTwice},
		{"one number at two levels", []api.Placed{placed(4, file(12, "n", "o")), placed(2, file(12, "p", "q"))}, api.ErrManifestTwice},
		{"one table twice", []api.Placed{placed(4, file(12, "n", "o")), placed(4, file(12, "n", "o"))}, api.ErrManifestTwice},
		{"below Next", []api.Placed{placed(2, file(19, "n", "o"))}, api.OK},
		{"at Next", []api.Placed{placed(2, file(20, "n", "o"))}, api.ErrManifestBack},
		{"at Next, level 0", []api.Placed{placed(0, file(20, "n", "o"))}, api.ErrManifestBack},
		{"above Next", []api.Placed{placed(2, file(21, "n", "o"))}, api.ErrManifestBack},
		{"the greatest number", []api.Placed{placed(2, file(most, "n", "o"))}, api.ErrManifestBack},
		{"touching the one ahead", []api.Placed{placed(1, file(12, "e", "f"))}, api.ErrManifestOver},
		{"touching the one behind", []api.Placed{placed(1, file(12, "f", "g"))}, api.ErrManifestOver},
		{"within another one", []api.Placed{placed(1, file(12, "d", "d"))}, api.ErrManifestOver},
		{"around another one", []api.Placed{placed(1, file(12, "f", "j"))}, api.ErrManifestOver},
		{"around all", []api.Placed{placed(1, file(12, "", "zz"))}, api.ErrManifestOver},
		{"touching the last one", []api.Placed{placed(1, file(12, "m", "z"))}, api.ErrManifestOver},
		{"touching the first one", []api.Placed{placed(1, file(12, "", "c"))}, api.ErrManifestOver},
		{"like another one", []api.Placed{placed(1, file(12, "g", "i"))}, api.ErrManifestOver},
		{"two that overlap", []api.Placed{placed(2, file(12, "g", "i")), placed(2, file(13, "i", "k"))}, api.ErrManifestOver},
		{"two that overlap, the other way", []api.Placed{placed(2, file(12, "i", "k")), placed(2, file(13, "g", "i"))}, api.ErrManifestOver},
		{"two that overlap, level 0", []api.Placed{placed(0, file(13, "g", "i")), placed(0, file(12, "g", "i"))}, api.OK},
		{"two with one Least", []api.Placed{placed(2, file(12, "g", "i")), placed(2, file(13, "g", "h"))}, api.ErrManifestOver},
		{"one number, at Next", []api.Placed{placed(2, file(20, "n", "o")), placed(4, file(20, "n", "o"))}, api.ErrManifestTwice},
		{"at Next, overlapping", []api.Placed{placed(1, file(20, "d", "d"))}, api.ErrManifestBack},
		{"a number that is there, overlapping", []api.Placed{placed(1, file(5, "d", "d"))}, api.ErrManifestTwice},
	} {
		if _, wrong := applied(t, c.what, some(), onward(nil, c.add...)); wrong != c.want {
			t.Errorf("P9.3: adds %s: %d, want %d", c.what, wrong, c.want)
		}
	}
}

// TestNextOfTheEdit: a table's number is held against the edit's Next, not the version's.
func TestNextOfTheEdit(t *testing.T) {
	e := onward(nil, placed(2, file(20, "n", "o")))
	e.Next = 21
	if v, wrong := applied(t, "Next", some(), e); v.Next != 21 || wrong != api.OK {
		t.Errorf("P9.3: %d, %d", v.Next, wrong)
	}
	v, wrong := applied(t, "most", api.Version{}, api.Edit{Next: most, Add: []api.Placed{placed(0, file(most-1, "", ""))}})
	if places(v) != "0:2147483646 " || wrong != api.OK {
		t.Errorf("P9.3: %s, %d", places(v), wrong)
	}
}

// TestWhichErrorOfApply: each error with all that the chapter names behind it.
func TestWhichErrorOfApply(t *testing.T) {
	form := func(e *api.Edit) { e.Add = append(e.Add, placed(5, file(1, "a", "b"))) }
	none := func(e *api.Edit) { e.Drop = append(e.Drop, gone(2, 5)) }
	back := func(e *api.Edit) { e.Log = 3 }
	twice := func(e *api.Edit) { e.Add = append(e.Add, placed(2, file(5, "a", "b"))) }
	next := func(e *api.Edit) { e.Add = append(e.Add, placed(4, file(30, "a", "b"))) }
	over := func(e *api.Edit) { e.Add = append(e.Add, placed(1, file(11, "d", "d"))) }
	hurts := []func(e *api.Edit){form, none, back, twice, next, over}
	wrongs := []api.Errno{api.ErrManifestForm, api.ErrManifestNone, api.ErrManifestBack, api.ErrManifestTwice, api.ErrManifestBack, api.ErrManifestOver}
	bad := some()
	bad.Levels[1][1].Most = key("k", 1, api.Set)
	for set := 0; set < 64; set++ {
		e := onward(nil)
		want := api.OK
		for i := len(hurts) - 1; i >= 0; i-- {
			if set>>i&1 == 1 {
				hurts[i](&e)
				want = wrongs[i]
			}
		}
		if _, wrong := applied(t, "several", some(), e); wrong != want {
			t.Errorf("P9.3: errors %06b: %d, want %d", set, wrong, want)
		}
		if _, wrong := applied(t, "several, and the version's", bad, e); wrong != api.ErrManifestOver {
			t.Errorf("P9.3: the version overlaps, errors %06b: %d", set, wrong)
		}
	}
}

// TestVersionsThatMayNotBe: none of them is applied to, not even by an edit that would mend it.
func TestVersionsThatMayNotBe(t *testing.T) {
	for _, c := range []struct {
		what string
		hurt func(v *api.Version)
		want api.Errno
	}{
		{"Log", func(v *api.Version) { v.Log = -1 }, api.ErrManifestForm},
		{"Seq", func(v *api.Version) { v.Seq = api.MaxSeq + 1 }, api.ErrManifestForm},
		{"a table", func(v *api.Version) { v.Levels[3][0].Size = -1 }, api.ErrManifestForm},
		{"one number", func(v *api.Version) { v.Levels[3][0].Number = 8 }, api.ErrManifestTwice},
		{"Next", func(v *api.Version) { v.Next = 9 }, api.ErrManifestBack},
		{"level 0", func(v *api.Version) { v.Levels[0][0].Number = 10 }, api.ErrManifestOver},
		{"level 1", func(v *api.Version) {
			v.Levels[1][0].Least = key("f", 1, api.Set)
			v.Levels[1][0].Most = key("g", 1, api.Set)
		}, api.ErrManifestOver},
	} {
		for _, e := range []api.Edit{onward(nil), {Log: -1}, onward([]api.Gone{gone(3, 2), gone(0, 8), gone(0, 9), gone(0, 3), gone(1, 7)}), {Log: 4, Next: 30, Seq: api.MaxSeq}} {
			v := some()
			c.hurt(&v)
			if _, wrong := applied(t, c.what, v, e); wrong != c.want {
				t.Errorf("P9.3: %s: %d, want %d", c.what, wrong, c.want)
			}
			if _, wrong := manifest.Whole(v); wrong != c.want {
				t.Errorf("P9.3: Whole, %s: %d, want %d", c.what, wrong, c.want)
			}
		}
	}
}

func TestDrawnApplies(t *testing.T) {
	r := rand.New(rand.NewSource(4))
	count := map[api.Errno]int{}
	for range 20000 {
		v := drawnVersion(r)
		e := drawnGood(r, v)
		applied(t, "drawn", v, e)
		for range r.Intn(3) {
			e = hurtEdit(r, e)
		}
		if r.Intn(20) == 0 {
			v = hurtVersion(r, v)
		}
		_, wrong := applied(t, "hurt", v, e)
		count[wrong]++
	}
	for _, wrong := range []api.Errno{api.OK, api.ErrManifestForm, api.ErrManifestNone, api.ErrManifestTwice, api.ErrManifestBack, api.ErrManifestOver} {
		if count[wrong] < 200 {
			t.Errorf("%d of the drawn edits are %d: too few", count[wrong], wrong)
		}
	}
}

// TestManyTables: versions with some thousand tables.
func TestManyTables(t *testing.T) {
	const n = 3000
	e := api.Edit{Next: n}
	for i := range n {
		user := fmt.Sprintf("%05d", i/5)
		e.Add = append(e.Add, placed(i%5, file(i, user, user)))
	}
	rand.New(rand.NewSource(5)).Shuffle(n, func(i, k int) { e.Add[i], e.Add[k] = e.Add[k], e.Add[i] })
	v, wrong := applied(t, "many", api.Version{}, e)
	if wrong != api.OK {
		t.Fatalf("P9.3: %d", wrong)
	}
	drop := api.Edit{Next: n}
	for i := range n {
		if i%7 > 0 {
			drop.Drop = append(drop.Drop, gone(i%5, i))
		}
	}
	applied(t, "many", v, drop)
}
