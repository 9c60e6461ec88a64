package mem_test

import (
	"math"
	"math/rand"
	"strings"
	"testing"

	"moraine/api"
	"moraine/mem"
)

// example: the chapter's rows.
func example() []row {
	return []row{{user: "a", seq: 1, kind: api.Set, value: "x"}, {user: "a", seq: 3, kind: api.Delete}, {user: "b", seq: 2, kind: api.Set, value: "y"}}
}

func TestExamples(t *testing.T) {
	rows := example()
	table, m := made(t, []int{1, 3}, rows...)
	gives(t, "P6.3: the example", table.All(), []row{rows[1], rows[0], rows[2]})
	for _, c := range []struct {
		seq   uint64
		value string
		kind  int
		ok    bool
	}{{2, "x", api.Set, true}, {3, "", api.Delete, true}, {0, "", 0, false}} {
		value, kind, ok := table.Get([]byte("a"), c.seq)
		if string(value) != c.value || kind != c.kind || ok != c.ok {
			t.Errorf("P6.2: Get(a, %d): %q, %d, %t", c.seq, value, kind, ok)
		}
	}
	if l := table.Level(1); len(l) != 1 || string(l[0]) != "a\x00\x03\x00\x00\x00\x00\x00\x00" {
		t.Errorf("P6.3: Level(1): %x", l)
	}
	if table.Len() != 3 || table.Size() != 29 {
		t.Errorf("P6.3: Len %d, Size %d", table.Len(), table.Size())
	}
	same(t, "the example", table, m)
}

func TestNoEntries(t *testing.T) {
	for _, heights := range [][]int{nil, {}, {1}, {12, 3}} {
		table, m := made(t, heights)
		same(t, "P6.1: a table without entries", table, m)
		gives(t, "P6.1: From", table.From([]byte("a")), nil)
		getIs(t, "P6.1", table, m, "", 0)
		getIs(t, "P6.1", table, m, "a", math.MaxUint64)
	}
}

func TestHeights(t *testing.T) {
	for _, c := range []struct {
		heights []int
		want    [12]int // how many of five entries each level has
	}{
		{nil, [12]int{5}},
		{[]int{}, [12]int{5}},
		{[]int{1}, [12]int{5}},
		{[]int{3}, [12]int{5, 5, 5}},
		{[]int{11}, [12]int{5, 5, 5, 5, 5, 5, 5, 5, 5, 5, 5, 0}},
		{[]int{12}, [12]int{5, 5, 5, 5, 5, 5, 5, 5, 5, 5, 5, 5}},
		{[]int{13}, [12]int{5, 5, 5, 5, 5, 5, 5, 5, 5, 5, 5, 5}},
		{[]int{math.MaxInt}, [12]int{5, 5, 5, 5, 5, 5, 5, 5, 5, 5, 5, 5}},
		{[]int{0}, [12]int{5}},
		{[]int{-1}, [12]int{5}},
		{[]int{math.MinInt}, [12]int{5}},
		{[]int{1, 2}, [12]int{5, 2}},
		{[]int{4, 0, 2}, [12]int{5, 3, 2, 2}},
		{[]int{2, 4, 1, 99, -9, 7, 12}, [12]int{5, 3, 2, 2, 1, 1, 1, 1, 1, 1, 1, 1}},
	} {
		table, m := made(t, c.heights, row{user: "c"}, row{user: "e"}, row{user: "a"}, row{user: "d"}, row{user: "b"})
		for i, want := range c.want {
			if got := len(table.Level(i)); got != want {
				t.Errorf("P6.1: heights %v: Level(%d) has %d, want %d", c.heights, i, got, want)
			}
		}
		same(t, "P6.1: heights", table, m)
	}
}

func TestWhichEntryHasWhichTower(t *testing.T) {
	table, _ := made(t, []int{1, 3, 2}, row{user: "f"}, row{user: "e"}, row{user: "d"}, row{user: "c"}, row{user: "b"}, row{user: "a"}, row{user: "g"})
	for i, want := range []string{"abcdefg", "abde", "be", ""} {
		got := ""
		for _, k := range table.Level(i) {
			got += string(k[:len(k)-8])
		}
		if got != want {
			t.Errorf("P6.1: Level(%d): %s, want %s", i, got, want)
		}
	}
}

func TestLevelsThatCannotBe(t *testing.T) {
	table, m := made(t, []int{12}, example()...)
	for _, i := range []int{math.MinInt, -12, -1, 12, 13, 1 << 32, math.MaxInt} {
		if l := table.Level(i); len(l) != 0 {
			t.Errorf("P6.3: Level(%d): %x", i, l)
		}
	}
	levelsAre(t, "P6.3", table, m)
}

func TestErrors(t *testing.T) {
	longKey, longValue := strings.Repeat("k", 129), strings.Repeat("v", 16385)
	for _, c := range []struct {
		x    row
		want api.Errno
	}{
		{row{user: "a", seq: 1, kind: api.Set}, api.ErrMemTwice},
		{row{user: "a", seq: 1, kind: api.Set, value: "x"}, api.ErrMemTwice},
		{row{user: "a", seq: 3, kind: api.Delete, value: "other"}, api.ErrMemTwice},
		{row{user: "a", seq: 1, kind: api.Set, value: longValue[1:]}, api.ErrMemTwice},
		{row{user: "a", seq: 1, kind: api.Set, value: longValue}, api.ErrMemValue},
		{row{user: "n", seq: 1, kind: api.Set, value: longValue}, api.ErrMemValue},
		{row{user: "n", seq: 1, kind: api.Delete, value: longValue}, api.ErrMemValue},
		{row{user: "n", seq: 1, kind: api.Set, value: longValue + longValue}, api.ErrMemValue},
		{row{user: longKey, seq: 1, kind: api.Set}, api.ErrCodecKey},
		{row{user: longKey, seq: 1, kind: api.Set, value: longValue}, api.ErrCodecKey},
		{row{user: "a", seq: 1 << 56, kind: api.Set}, api.ErrCodecKey},
		{row{user: "a", seq: 1<<56 + 1, kind: api.Set, value: longValue}, api.ErrCodecKey},
		{row{user: "a", seq: math.MaxUint64, kind: api.Delete}, api.ErrCodecKey},
		{row{user: "a", seq: 1, kind: -1}, api.ErrCodecKey},
		{row{user: "a", seq: 1, kind: 2}, api.ErrCodecKey},
		{row{user: "a", seq: 1, kind: 257, value: longValue}, api.ErrCodecKey},
		{row{user: "a", seq: 1, kind: math.MinInt}, api.ErrCodecKey},
	} {
		table, m := made(t, []int{1, 3, 2, 5}, example()...)
		if e := put(table, c.x); e != c.want {
			t.Errorf("P6.2: %.5q, %d, %d, %d bytes: %d, want %d", c.x.user, c.x.seq, c.x.kind, len(c.x.value), e, c.want)
		}
		same(t, "P6.2: behind a refused entry", table, m)
		next := row{user: "ab", seq: 7, kind: api.Set, value: "next"}
		if e := put(table, next); e != m.put(next) {
			t.Errorf("P6.2: %d behind a refused entry", e)
		}
		same(t, "P6.1: a refused entry takes no height", table, m)
		if len(table.Level(4)) != 1 {
			t.Error("P6.1: the fourth entry's tower isn't 5 high")
		}
	}
}

func TestEdges(t *testing.T) {
	longKey, longValue := strings.Repeat("k", 128), strings.Repeat("v", 16384)
	table, m := made(t, []int{2, 1},
		row{user: longKey, seq: 0, kind: api.Set, value: longValue},
		row{user: longKey, seq: 1<<56 - 1, kind: api.Delete, value: longValue},
		row{user: "", seq: 1<<56 - 1, kind: api.Set, value: "last"},
		row{user: "", seq: 0, kind: api.Delete},
		row{user: "", seq: 0, kind: api.Set, value: "zero"},
		row{user: longKey[1:], seq: 5, kind: api.Set, value: longValue[1:]},
	)
	same(t, "P6.2: edges", table, m)
	if table.Len() != 6 || table.Size() != 2*(128+8+16384)+3*8+4+4+127+8+16383 {
		t.Errorf("P6.3: Len %d, Size %d", table.Len(), table.Size())
	}
}

func TestSetAndDeleteOfOneNumber(t *testing.T) {
	table, m := made(t, nil, row{user: "a", seq: 4, kind: api.Delete, value: "gone"})
	if value, kind, ok := table.Get([]byte("a"), 4); string(value) != "gone" || kind != api.Delete || !ok {
		t.Errorf("P6.2: %q, %d, %t", value, kind, ok)
	}
	x := row{user: "a", seq: 4, kind: api.Set, value: "set"}
	if e := put(table, x); e != m.put(x) {
		t.Errorf("P6.2: another kind: %d", e)
	}
	if value, kind, ok := table.Get([]byte("a"), 4); string(value) != "set" || kind != api.Set || !ok {
		t.Errorf("P6.2: %q, %d, %t", value, kind, ok)
	}
	same(t, "P6.2: both kinds", table, m)
}

func TestGetAboutEachNumber(t *testing.T) {
	for _, heights := range [][]int{nil, {12}, {1, 2, 1, 4}} {
		table, m := made(t, heights, row{user: "a", seq: 10, kind: 1, value: "ten"}, row{user: "", seq: 6, kind: 1, value: "empty"}, row{user: "a", seq: 5, kind: 0},
			row{user: "ab", seq: 7, kind: 1, value: "seven"}, row{user: "a", seq: 20, kind: 1}, row{user: "c", seq: 0, kind: 1, value: "nought"})
		for _, user := range []string{"", "\x00", "a", "a\x00", "aa", "ab", "abc", "b", "c", "d", strings.Repeat("a", 128), strings.Repeat("a", 129), strings.Repeat("c", 1000)} {
			for seq := range uint64(25) {
				getIs(t, "P6.2", table, m, user, seq)
			}
			for _, seq := range []uint64{1<<56 - 1, 1 << 56, 1<<56 + 5, math.MaxUint64} {
				getIs(t, "P6.2", table, m, user, seq)
			}
		}
	}
}

func TestDrawnTables(t *testing.T) {
	r := rand.New(rand.NewSource(1))
	twice := 0
	for range 150 {
		rows := drawnRows(r, r.Intn(60))
		table, m := made(t, drawnHeights(r), rows...)
		same(t, "P6.2, P6.3: drawn", table, m)
		twice += len(rows) - len(m.rows)
		for range 30 {
			getIs(t, "P6.2: drawn", table, m, drawnUser(r), drawnRow(r).seq)
		}
	}
	if twice < 50 {
		t.Errorf("drawn: %d twice", twice)
	}
}

func TestManyEntries(t *testing.T) {
	r := rand.New(rand.NewSource(2))
	const n = 40000
	var heights []int
	for range 997 {
		h := 1
		for r.Intn(3) == 0 {
			h++
		}
		heights = append(heights, h)
	}
	table := mem.New(heights)
	for i, at := range r.Perm(n) {
		user := []byte{byte(at >> 16), byte(at >> 8), byte(at)}
		if e := table.Put(user, uint64(i), api.Set, user); e != api.OK {
			t.Fatalf("P6.2: %d", e)
		}
	}
	at := 0
	for x := range table.All() {
		if want := string([]byte{byte(at >> 16), byte(at >> 8), byte(at)}); string(x.Key[:3]) != want || string(x.Value) != want {
			t.Fatalf("P6.3: entry %d: %x", at, x.Key)
		}
		at++
	}
	if at != n || table.Len() != n || table.Size() != 14*n {
		t.Errorf("P6.3: %d entries, Len %d, Size %d", at, table.Len(), table.Size())
	}
}
