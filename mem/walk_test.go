package mem_test

import (
	"math/rand"
	"slices"
	"strings"
	"testing"

	"moraine/api"
	"moraine/mem"
)

// letters: entries of several user keys, some with several moments.
func letters() []row {
	return []row{{user: "m", seq: 1, kind: 1, value: "m1"}, {user: "c", seq: 2, kind: 1, value: "c2"}, {user: "m", seq: 3, kind: 0}, {user: "ca", seq: 4, kind: 1, value: "ca4"},
		{user: "c", seq: 5, kind: 1}, {user: "x", seq: 6, kind: 1, value: "x6"}, {user: "m\x00", seq: 7, kind: 1, value: "m7"}, {user: "m", seq: 8, kind: 1, value: "m8"}}
}

func TestFromEveryPlace(t *testing.T) {
	for _, heights := range [][]int{nil, {12}, {2, 1, 3}} {
		table, m := made(t, heights, letters()...)
		for user, want := range map[string]int{
			"": 8, "\x00": 8, "b\xff": 8, "c": 8, "c\x00": 6, "ca": 6, "ca\x00": 5, "cb": 5, "l": 5, "m": 5, "m\x00": 2, "m\x00\x00": 1, "m\x01": 1, "x": 1, "x\x00": 0, "y": 0, "\xff\xff": 0,
			strings.Repeat("c", 128): 5, strings.Repeat("c", 129): 5, strings.Repeat("a", 1000): 8, strings.Repeat("y", 1000): 0,
			"x" + strings.Repeat("\x00", 300): 0, "m" + strings.Repeat("\x00", 300): 1,
		} {
			l := m.from(user)
			if len(l) != want {
				t.Fatalf("the model: From(%.9q): %d", user, len(l))
			}
			gives(t, "P6.3: From", table.From(roomy(user)), l)
		}
	}
}

func TestFromLongerThanAKey(t *testing.T) {
	longest := strings.Repeat("k", 128)
	table, m := made(t, []int{3, 1}, row{user: longest, seq: 1, kind: 1}, row{user: longest[1:], seq: 2, kind: 1}, row{user: longest[1:] + "l", seq: 3, kind: 1})
	for _, user := range []string{longest, longest + "\x00", longest[1:], longest[2:], longest + longest, longest[1:] + "l", longest[1:] + "l\x00"} {
		gives(t, "P6.3: From", table.From([]byte(user)), m.from(user))
	}
	if l := m.from(longest + "\x00"); len(l) != 1 {
		t.Errorf("the model: %d", len(l))
	}
}

func TestLeftEarly(t *testing.T) {
	table, m := made(t, []int{1, 2}, letters()...)
	for _, user := range []string{"", "c", "cb", "m", "y"} {
		all, want := table.From([]byte(user)), m.from(user)
		for n := range len(want) {
			var got []row
			for x := range all {
				if len(got) == n {
					break
				}
				got = append(got, want[len(got)])
				if string(x.Key) != got[len(got)-1].key() {
					t.Fatalf("P6.3: From(%q): %x", user, x.Key)
				}
			}
			asked := 0
			all(func(api.KV) bool {
				asked++
				return asked < n
			})
			if len(got) != n || asked != max(n, 1) {
				t.Fatalf("P6.3: From(%q) left behind %d: %d, %d", user, n, len(got), asked)
			}
		}
		gives(t, "P6.3: whole, behind being left", all, want)
	}
}

func TestAgainAndWithinItself(t *testing.T) {
	table, m := made(t, []int{3, 1}, letters()...)
	all, some := table.All(), table.From([]byte("m"))
	for range 3 {
		gives(t, "P6.3: again", all, m.sorted())
		gives(t, "P6.3: again", some, m.from("m"))
	}
	at := 0
	for x := range all {
		gives(t, "P6.3: while it is gone through", all, m.sorted())
		gives(t, "P6.3: while another is gone through", some, m.from("m"))
		if string(x.Key) != m.sorted()[at].key() {
			t.Fatalf("P6.3: entry %d: %x", at, x.Key)
		}
		at++
	}
	if at != 8 {
		t.Errorf("P6.3: %d entries", at)
	}
}

func TestWhatIsThereWhenItIsGoneThrough(t *testing.T) {
	table, m := made(t, []int{2, 1})
	all, some := table.All(), table.From([]byte("c\x00"))
	for _, x := range letters() {
		put(table, x)
		m.put(x)
		gives(t, "P6.3: All of long ago", all, m.sorted())
		gives(t, "P6.3: From of long ago", some, m.from("c\x00"))
	}
}

func TestPutWhileGoneThrough(t *testing.T) {
	for _, heights := range [][]int{nil, {12}, {1, 4, 2}} {
		table, m := made(t, heights, letters()...)
		before := m.sorted()
		var got []string
		n := uint64(0)
		for x := range table.All() {
			got = append(got, string(x.Key))
			for _, user := range []string{"a", "ca", "m", "x"} {
				if n++; n <= 20 {
					extra := row{user: user, seq: 100 + n, kind: 1}
					if e := put(table, extra); e != m.put(extra) {
						t.Fatalf("P6.2: %d", e)
					}
				}
			}
		}
		if !slices.IsSortedFunc(got, byKey) {
			t.Errorf("P6.3: out of order: %x", got)
		}
		for _, x := range before {
			if !slices.Contains(got, x.key()) {
				t.Errorf("P6.3: %x isn't given", x.key())
			}
		}
		same(t, "P6.3: behind it", table, m)
	}
}

// byKey: internal keys by the words of P2.6, from the bytes themselves.
func byKey(a, b string) int {
	if c := strings.Compare(a[:len(a)-8], b[:len(b)-8]); c != 0 {
		return c
	}
	for i := 1; i <= 8; i++ {
		if x, y := a[len(a)-i], b[len(b)-i]; x != y {
			return int(y) - int(x)
		}
	}
	return 0
}

func TestOrderDoesNotMatter(t *testing.T) {
	r := rand.New(rand.NewSource(3))
	for range 60 {
		_, first := made(t, nil, drawnRows(r, r.Intn(50))...)
		for range 4 {
			rows := slices.Clone(first.rows)
			r.Shuffle(len(rows), func(i, k int) { rows[i], rows[k] = rows[k], rows[i] })
			table, m := made(t, drawnHeights(r), rows...)
			gives(t, "P6.4: in another order", table.All(), first.sorted())
			if table.Len() != len(first.rows) || table.Size() != first.size() {
				t.Fatalf("P6.4: Len %d, Size %d", table.Len(), table.Size())
			}
			for _, x := range rows {
				getIs(t, "P6.4: in another order", table, first, x.user, x.seq)
				gives(t, "P6.4: in another order", table.From([]byte(x.user)), first.from(x.user))
			}
			levelsAre(t, "P6.4: by its own towers", table, m)
		}
	}
}

func TestTowersDoNotHangOnOrder(t *testing.T) {
	r := rand.New(rand.NewSource(4))
	for range 60 {
		_, m := made(t, []int{1, 3, 2, 12, 1, 5, 7}, drawnRows(r, 40)...)
		rows := slices.Clone(m.rows)
		r.Shuffle(len(rows), func(i, k int) { rows[i], rows[k] = rows[k], rows[i] })
		var heights []int
		for _, x := range rows {
			heights = append(heights, x.height)
		}
		table, _ := made(t, heights, rows...)
		same(t, "P6.4: the same towers, in another order", table, m)
	}
}

func TestEachLevelIsInTheOneBelow(t *testing.T) {
	r := rand.New(rand.NewSource(5))
	for range 100 {
		table, m := made(t, drawnHeights(r), drawnRows(r, r.Intn(80))...)
		if len(table.Level(0)) != len(m.rows) {
			t.Fatalf("P6.3: Level(0) has %d of %d", len(table.Level(0)), len(m.rows))
		}
		for i := 1; i < 12; i++ {
			below := table.Level(i - 1)
			at := 0
			for _, k := range table.Level(i) {
				for at < len(below) && string(below[at]) != string(k) {
					at++
				}
				if at == len(below) {
					t.Fatalf("P6.4: Level(%d) has %x, the one below hasn't", i, k)
				}
			}
		}
	}
}

func TestWhatWasPutLast(t *testing.T) {
	r := rand.New(rand.NewSource(6))
	for range 40 {
		table := mem.New(drawnHeights(r))
		world := map[string]row{}
		moments := []map[string]row{}
		var users []string
		for seq := range uint64(60) {
			x := drawnRow(r)
			x.seq = seq
			if e := put(table, x); e != api.OK {
				t.Fatalf("P6.2: %d", e)
			}
			world[x.user] = x
			users = append(users, x.user)
			now := map[string]row{}
			for user, y := range world {
				now[user] = y
			}
			moments = append(moments, now)
		}
		for _, user := range append(users, "never") {
			for seq, now := range moments {
				value, kind, ok := table.Get([]byte(user), uint64(seq))
				x, there := now[user]
				if ok != there || string(value) != x.value || ok && kind != x.kind {
					t.Fatalf("P6.4: Get(%q, %d): %q, %d, %t, want %v", user, seq, value, kind, ok, x)
				}
			}
		}
	}
}
