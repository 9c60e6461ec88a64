package mem_test

import (
	"math/rand"
	"slices"
	"testing"

	"moraine/api"
	"moraine/mem"
)

// spoilt writes over a list and the room behind it.
func spoilt(b []byte) {
	b = b[:cap(b)]
	for i := range b {
		b[i] ^= 0x5A
	}
}

func TestNothingHandedInIsChanged(t *testing.T) {
	heights := []int{99, -4, 3, 50}[:3]
	table := mem.New(heights)
	if !slices.Equal(heights[:4], []int{99, -4, 3, 50}) {
		t.Errorf("heights were changed: %v", heights[:4])
	}
	user, value := roomy("user"), roomy("value")
	u, v := string(user[:cap(user)]), string(value[:cap(value)])
	for range 2 {
		table.Put(user, 1, api.Set, value)
		table.Get(user, 5)
		for range table.From(user) {
		}
	}
	if string(user[:cap(user)]) != u || string(value[:cap(value)]) != v {
		t.Error("what was handed in was changed")
	}
}

func TestNothingHandedInIsKept(t *testing.T) {
	heights := []int{2, 1, 5}
	table, m := mem.New(heights), &model{heights: slices.Clone(heights)}
	clear(heights)
	for _, x := range letters() {
		user, value := roomy(x.user), roomy(x.value)
		if e := table.Put(user, x.seq, x.kind, value); e != m.put(x) {
			t.Fatalf("P6.2: %d", e)
		}
		spoilt(user)
		spoilt(value)
		same(t, "what was put was kept", table, m)
	}
	user := roomy("ca")
	some := table.From(user)
	spoilt(user)
	gives(t, "what From was handed was kept", some, m.from("ca"))
	for range some {
		spoilt(user)
	}
	gives(t, "what From was handed was kept", some, m.from("ca"))
}

func TestNothingHandedOutIsKept(t *testing.T) {
	r := rand.New(rand.NewSource(7))
	for range 30 {
		table, m := made(t, drawnHeights(r), drawnRows(r, r.Intn(30))...)
		for _, x := range m.rows {
			value, _, _ := table.Get([]byte(x.user), x.seq)
			spoilt(value)
		}
		for i := range 12 {
			l := table.Level(i)
			for _, k := range l {
				spoilt(k)
			}
			clear(l[:cap(l)])
		}
		for x := range table.All() {
			spoilt(x.Key)
			spoilt(x.Value)
		}
		for x := range table.From([]byte("a")) {
			spoilt(x.Value)
			spoilt(x.Key)
		}
		same(t, "what was handed out was kept", table, m)
	}
}

// eachApart: that lists are touched neither by one another nor by their spare room.
func eachApart(t *testing.T, what string, lists [][]byte) {
	t.Helper()
	for i := range lists {
		var before []string
		for _, b := range lists {
			before = append(before, string(b))
		}
		spoilt(lists[i])
		for k, b := range lists {
			if k != i && string(b) != before[k] {
				t.Fatalf("%s: list %d is touched by list %d", what, k, i)
			}
		}
	}
}

func TestAnswersShareNothing(t *testing.T) {
	table, m := made(t, []int{3, 1, 2}, letters()...)
	var lists [][]byte
	for range 2 {
		for x := range table.All() {
			lists = append(lists, x.Key, x.Value)
		}
		for x := range table.From([]byte("m")) {
			lists = append(lists, x.Key, x.Value)
		}
		for i := range 3 {
			lists = append(lists, table.Level(i)...)
		}
		for _, x := range m.rows {
			value, _, _ := table.Get([]byte(x.user), x.seq)
			lists = append(lists, value)
		}
	}
	eachApart(t, "answers", lists)
	same(t, "behind that", table, m)
}

func TestTwoTables(t *testing.T) {
	heights := []int{2, 1, 4}
	one, m := made(t, heights, letters()...)
	two, n := made(t, heights, example()...)
	for i, x := range letters() {
		x.user, x.seq = x.user+"2", x.seq+50
		if e := put(two, x); e != n.put(x) {
			t.Fatalf("P6.2: %d", e)
		}
		same(t, "a table that another one was put into", one, m)
		if i%2 == 0 {
			x.value += "!"
			if e := put(one, x); e != m.put(x) {
				t.Fatalf("P6.2: %d", e)
			}
		}
		same(t, "a table beside another one", two, n)
	}
	third, none := made(t, heights)
	same(t, "a new table", third, none)
}
