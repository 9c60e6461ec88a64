package block_test

import (
	"math"
	"math/rand"
	"slices"
	"strings"
	"testing"

	"moraine/api"
	"moraine/block"
)

func TestExamples(t *testing.T) {
	one := []api.KV{{Key: []byte("a\x01\x01\x00\x00\x00\x00\x00\x00"), Value: []byte("x")}}
	b, e := block.Build(one, 1)
	if string(b) != "\x00\x09\x01a\x01\x01\x00\x00\x00\x00\x00\x00x\x00\x00\x00\x00\x01\x00\x00\x00" || len(b) != 21 || e != api.OK {
		t.Errorf("P7.1: %x, %d", b, e)
	}
	for _, none := range [][]api.KV{nil, {}} {
		if b, e := block.Build(none, 7); string(b) != "\x00\x00\x00\x00" || e != api.OK {
			t.Errorf("P7.1: none: %x, %d", b, e)
		}
	}
	if f, e := block.Filter(nil, 10); string(f) != "\x00\x00\x00\x00\x00\x00\x00\x00\x06" || e != api.OK {
		t.Errorf("P7.3: no keys: %x, %d", f, e)
	}
	if !block.May(nil, []byte("x")) || !block.May([]byte{}, nil) {
		t.Errorf("P7.3: May(no bytes, ..) is false")
	}
}

// TestTwoKeysByHand: the second key is told by what it doesn't share, unless it begins a run.
func TestTwoKeysByHand(t *testing.T) {
	rows := []row{{key("ab", 1, 1), "x"}, {key("ac", 1, 1), ""}}
	first := "\x00\x0a\x01ab\x01\x01\x00\x00\x00\x00\x00\x00x"
	if got := build(t, "by hand", rows, 2); got != first+"\x01\x09\x00c\x01\x01\x00\x00\x00\x00\x00\x00"+"\x00\x00\x00\x00\x01\x00\x00\x00" {
		t.Errorf("P7.1: restart 2: %x", got)
	}
	if got := build(t, "by hand", rows, 1); got != first+"\x00\x0a\x00ac\x01\x01\x00\x00\x00\x00\x00\x00"+"\x00\x00\x00\x00\x0e\x00\x00\x00\x02\x00\x00\x00" {
		t.Errorf("P7.1: restart 1: %x", got)
	}
}

func TestRestarts(t *testing.T) {
	for _, n := range []int{0, 1, 2, 3, 62, 63, 64, 65, 66, 127, 128, 129, 130} {
		for restart := 1; restart <= 64; restart++ {
			rows := letters(n)
			taken(t, "each restart", build(t, "each restart", rows, restart), rows)
		}
	}
	for _, restart := range []int{math.MinInt, -64, -1, 0, 65, 66, 128, math.MaxInt32, math.MaxInt} {
		for _, n := range []int{0, 1, 65} {
			if b, e := block.Build(entries(letters(n)), restart); b != nil || e != api.ErrBlockPlan {
				t.Errorf("P7.1: restart %d: %x, %d", restart, b, e)
			}
		}
	}
}

func TestAboutAsManyAsARestart(t *testing.T) {
	for restart := 1; restart <= 64; restart++ {
		for _, n := range []int{restart - 1, restart, restart + 1, 2*restart - 1, 2 * restart, 2*restart + 1} {
			b := build(t, "about a restart", letters(n), restart)
			count := (n + restart - 1) / restart
			if !strings.HasSuffix(b, four(count)) {
				t.Errorf("P7.1: restart %d, %d entries: %x", restart, n, b[len(b)-4:])
			}
			parse(t, "about a restart", b)
		}
	}
}

// TestShared: what the second key of two shares with the first.
func TestShared(t *testing.T) {
	long := strings.Repeat("l", 127)
	low := key("", 0x0102030405, 1) // as a user key it begins like the internal key of no bytes
	for _, c := range []struct {
		what          string
		first, second string
		want          int
	}{
		{"nothing", key("a", 1, 1), key("b", 1, 1), 0},
		{"nothing, of no user key", key("", 1, 0), key("b", 1, 1), 0},
		{"something", key("abc", 1, 1), key("abd", 1, 1), 2},
		{"all of the shorter user key", key("ab", 1, 1), key("abc", 1, 1), 2},
		{"all of a longer user key but one byte", key(long, 1, 1), key(long+"x", 1, 1), 127},
		{"the user key, not the kind", key("ab", 1, 1), key("ab", 1, 0), 2},
		{"the user key and the kind", key("ab", 2, 1), key("ab", 1, 1), 3},
		{"the user key and all but the highest byte", key("ab", 1<<48, 1), key("ab", 0, 1), 9},
		{"the longest user key", key(long+"z", 1<<48, 0), key(long+"z", 0, 0), 135},
		{"all of the first key", low, key(low, 9, 1), 8},
		{"all of the first key, and of its user key", key("u", 1, 1), key(key("u", 1, 1)+"more", 9, 1), 9},
		{"bytes of a moment", key("a", 1, 1), key("a\x01\x01\x00x", 1, 1), 4},
	} {
		rows := []row{{c.first, "one"}, {c.second, "two"}}
		b := build(t, c.what, rows, 2)
		head := len(piece(0, c.first, "one"))
		if want := piece(c.want, c.second[c.want:], "two"); b[head:len(b)-8] != want {
			t.Errorf("P7.1: %s: %x, want %x", c.what, b[head:len(b)-8], want)
		}
		taken(t, c.what, b, rows)
		whole := build(t, c.what, rows, 1)
		if want := piece(0, c.second, "two"); whole[head:len(whole)-12] != want {
			t.Errorf("P7.1: %s: restart 1: %x, want %x", c.what, whole[head:len(whole)-12], want)
		}
		taken(t, c.what, whole, rows)
	}
}

// TestSharedWithTheOneAhead: not with the first key of the run.
func TestSharedWithTheOneAhead(t *testing.T) {
	rows := []row{{key("aaaa", 1, 1), ""}, {key("aaba", 1, 1), ""}, {key("aabb", 1, 1), ""}, {key("b", 1, 1), ""}, {key("bb", 1, 1), ""}}
	want := piece(0, rows[0].key, "") + piece(2, rows[1].key[2:], "") + piece(3, rows[2].key[3:], "") + piece(0, rows[3].key, "") + piece(1, rows[4].key[1:], "")
	if b := build(t, "ahead", rows, 5); b != closed(want, 0) {
		t.Errorf("P7.1: %x", b)
	}
	// The first key behind a restart shares with the one ahead of it, as the others do.
	second := len(piece(0, rows[0].key, "") + piece(2, rows[1].key[2:], ""))
	want = want[:second] + piece(0, rows[2].key, "") + piece(0, rows[3].key, "")
	third := len(want)
	want += piece(0, rows[4].key, "")
	if b := build(t, "ahead", rows, 2); b != closed(want, 0, second, third) {
		t.Errorf("P7.1: %x", b)
	}
}

func TestKeysThatAreNone(t *testing.T) {
	good := row{key("m", 5, 1), "v"}
	for _, bad := range []string{
		"", "x", "1234567", "\x02\x00\x00\x00\x00\x00\x00\x00", "z\xff\x00\x00\x00\x00\x00\x00\x00",
		key(strings.Repeat("z", 129), 1, 1), key(strings.Repeat("z", 5000), 1, 1), key("z", 1, 2), key("a", 1, 255),
	} {
		for _, rows := range [][]row{{{bad, ""}}, {good, {bad, ""}}, {{bad, ""}, good}, {good, {key("n", 1, 1), ""}, {bad, "x"}, {key("o", 1, 1), ""}}} {
			for _, restart := range []int{1, 2, 64} {
				if b, e := block.Build(entries(rows), restart); b != nil || e != api.ErrBlockOrder {
					t.Errorf("P7.1: %x among %d: %x, %d", bad, len(rows), b, e)
				}
			}
		}
	}
	for _, right := range []string{key("", 0, 0), key("", 1<<56-1, 1), key(strings.Repeat("z", 128), 1<<56-1, 0)} {
		rows := []row{{right, "v"}}
		taken(t, "edges of keys", build(t, "edges of keys", rows, 1), rows)
	}
}

func TestKeysThatDontRise(t *testing.T) {
	for _, c := range [][2]string{
		{key("a", 1, 1), key("a", 1, 1)}, {key("", 0, 0), key("", 0, 0)}, {key("b", 1, 1), key("a", 1, 1)}, {key("ab", 1, 1), key("a", 9, 1)},
		{key("a", 1, 1), key("a", 2, 1)}, {key("a", 1, 0), key("a", 1, 1)}, {key("a", 255, 0), key("a", 256, 0)}, {key("\xff", 1, 1), key("\x7f", 1, 1)},
	} {
		for _, rows := range [][]row{
			{{c[0], ""}, {c[1], "x"}},
			{{key("", 1<<50, 1), ""}, {c[0], ""}, {c[1], ""}},
			{{c[0], ""}, {c[1], ""}, {key("\xff\xff", 1, 1), ""}},
		} {
			for _, restart := range []int{1, 2, 3, 64} {
				if b, e := block.Build(entries(rows), restart); b != nil || e != api.ErrBlockOrder {
					t.Errorf("P7.1: %x, %x: %x, %d", c[0], c[1], b, e)
				}
			}
		}
	}
}

func TestWhichErrorStandsFirst(t *testing.T) {
	for _, rows := range [][]row{{{"", ""}}, {{key("a", 1, 1), ""}, {key("a", 1, 1), ""}}} {
		for _, restart := range []int{math.MinInt, 0, 65} {
			if b, e := block.Build(entries(rows), restart); b != nil || e != api.ErrBlockPlan {
				t.Errorf("P7.1: restart %d: %x, %d", restart, b, e)
			}
		}
	}
	for _, restart := range []int{1, 64} {
		if b, e := block.Build(entries([]row{{"", ""}}), restart); b != nil || e != api.ErrBlockOrder {
			t.Errorf("P7.1: restart %d: %x, %d", restart, b, e)
		}
	}
}

func TestValues(t *testing.T) {
	for _, n := range []int{0, 1, 127, 128, 129, 16383, 16384, 16385, 1<<21 + 1} {
		rows := []row{{key("a", 1, 1), strings.Repeat("x", n)}, {key("ab", 1, 0), ""}, {key("ac", 1, 0), strings.Repeat("\x00", n)}}
		for _, restart := range []int{1, 2, 3} {
			b, e := block.Build(entries(rows), restart)
			want, _ := buildByWords(rows, restart)
			if e != api.OK || string(b) != want {
				t.Errorf("P7.1: values of %d bytes: %d bytes, %d", n, len(b), e)
			}
			taken(t, "values", want, rows)
		}
	}
	nothing := []api.KV{{Key: []byte(key("a", 1, 1))}, {Key: []byte(key("b", 1, 1)), Value: []byte{}}}
	if b, e := block.Build(nothing, 1); e != api.OK || string(b) != build(t, "no value", []row{{key("a", 1, 1), ""}, {key("b", 1, 1), ""}}, 1) {
		t.Errorf("P7.1: nil and empty values: %x, %d", b, e)
	}
}

// TestFarPlaces: places of which each of the lowest three bytes counts.
func TestFarPlaces(t *testing.T) {
	var rows []row
	for i := range 40 {
		rows = append(rows, row{key(string([]byte{byte(i)}), 1, 1), strings.Repeat("f", 9973)})
	}
	b := build(t, "far places", rows, 7)
	taken(t, "far places", b, rows)
	if !strings.Contains(b[len(b)-28:], four(35*(5+9+9973-1))) {
		t.Errorf("P7.1: %x", b[len(b)-28:])
	}
}

func TestDrawnBuilds(t *testing.T) {
	r := rand.New(rand.NewSource(1))
	for range 4000 {
		rows := drawnRows(r, r.Intn(40))
		restart := 1 + r.Intn(64)
		if r.Intn(2) == 0 {
			restart = 1 + r.Intn(6)
		}
		b := build(t, "drawn", rows, restart)
		taken(t, "drawn", b, rows)
		for _, x := range rows {
			got, ok, e := block.Seek([]byte(b), []byte(x.key))
			if !ok || e != api.OK || string(got.Key) != x.key || string(got.Value) != x.value {
				t.Fatalf("P7.4: Seek of %x in %x: %t, %d", x.key, b, ok, e)
			}
		}
	}
}

// TestDrawnRowsInAnyOrder: rows that seldom rise.
func TestDrawnRowsInAnyOrder(t *testing.T) {
	r := rand.New(rand.NewSource(2))
	for range 10000 {
		rows := drawnRows(r, 1+r.Intn(6))
		i, j := r.Intn(len(rows)), r.Intn(len(rows))
		switch r.Intn(3) {
		case 0:
			rows[i], rows[j] = rows[j], rows[i]
		case 1:
			rows = slices.Insert(rows, i, rows[j])
		case 2:
			rows[i].key = rows[i].key[:r.Intn(len(rows[i].key)+1)]
		}
		build(t, "in any order", rows, r.Intn(68)-1)
	}
}
