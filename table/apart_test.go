package table_test

import (
	"math/rand"
	"slices"
	"strings"
	"testing"

	"moraine/api"
	"moraine/table"
)

// spoilt: every byte changed, those of the spare room too.
func spoilt(b []byte) {
	b = b[:cap(b)]
	for i := range b {
		b[i] ^= 0x5A
	}
}

// whole: all bytes of the lists, spare room included.
func whole(lists ...[]byte) string {
	var all strings.Builder
	for _, b := range lists {
		all.Write(b[:cap(b)])
		all.WriteByte(0)
	}
	return all.String()
}

func listsOf(l []api.KV) [][]byte {
	var out [][]byte
	for _, x := range l {
		out = append(out, x.Key, x.Value)
	}
	return out
}

// apart: that no list is touched by what is done with another one, spare room included.
func apart(t *testing.T, what string, lists [][]byte) {
	t.Helper()
	was := make([]string, len(lists))
	for i, b := range lists {
		was[i] = string(b[:cap(b)])
	}
	for i := range lists {
		spoilt(lists[i])
		for j, b := range lists {
			if i != j && string(b[:cap(b)]) != was[j] {
				t.Fatalf("%s: two lists of an answer share memory", what)
			}
		}
		spoilt(lists[i])
	}
}

func TestNothingHandedInIsChanged(t *testing.T) {
	r := rand.New(rand.NewSource(5))
	for range 200 {
		rows := drawnRows(r, 1+r.Intn(12))
		l := entries(rows)
		spare := api.KV{Key: []byte("spare"), Value: []byte("room")}
		l = append(l, spare)[:len(l)]
		was := whole(listsOf(l[:len(l)+1])...)
		b, _ := table.Build(l, drawnPlan(r))
		if whole(listsOf(l[:len(l)+1])...) != was {
			t.Fatalf("P8.2: Build changed what was handed in")
		}
		file, user, most := roomy(string(b)), roomy(drawnUser(r)), roomy(drawnUser(r))
		was = whole(file, user, most)
		x, _ := table.Open(file)
		table.Open(user)
		x.Get(user, uint64(r.Intn(5)))
		x.Range(user, most)
		x.May(user)
		x.All()
		if whole(file, user, most) != was {
			t.Fatalf("P8.3, P8.4: what was handed in is changed")
		}
	}
}

// TestNothingIsKept: what is handed in may be changed behind the call, and what is told too.
func TestNothingIsKept(t *testing.T) {
	r := rand.New(rand.NewSource(6))
	for range 200 {
		rows := drawnRows(r, 1+r.Intn(12))
		p := drawnPlan(r)
		l := entries(rows)
		b, _ := table.Build(l, p)
		again, _ := table.Build(l, p)
		for _, list := range listsOf(l) {
			spoilt(list)
		}
		spoilt(again)
		if string(b) != buildByWords(rows, p) {
			t.Fatalf("P8.2: a table's bytes share memory with what they were built of, or with others")
		}
		x, _ := table.Open(b)
		spoilt(b)
		for range 2 { // the second time behind what was done with the first answers
			user := roomy(userOf(rows[r.Intn(len(rows))].key))
			all, e := x.All()
			some, f := x.Range(user, nil)
			v, _, ok, g := x.Get(user, 1<<56)
			i := slices.IndexFunc(rows, func(y row) bool { return userOf(y.key) == string(user) })
			if e != api.OK || f != api.OK || g != api.OK || !ok || !x.May(user) || x.Blocks() < 1 {
				t.Fatalf("P8.3: a table keeps what may change: %d, %d, %d", e, f, g)
			}
			if !slices.Equal(rowsOf(all), rows) || !slices.Equal(rowsOf(some), rows[i:]) || string(v) != rows[i].value {
				t.Fatalf("P8.4: a table tells something else behind changes")
			}
			spoilt(user)
			apart(t, "P8.4", append(append(listsOf(all), listsOf(some)...), v))
			for _, list := range append(append(listsOf(all), listsOf(some)...), v) {
				spoilt(list)
			}
			for i := range all[:cap(all)] {
				all[:cap(all)][i] = api.KV{}
			}
			for i := range some[:cap(some)] {
				some[:cap(some)][i] = api.KV{}
			}
		}
	}
}

// TestTheFilterIsKept: the bits of what Open was handed may change, with the last byte as it was.
func TestTheFilterIsKept(t *testing.T) {
	rows := letters(30)
	b := []byte(built(t, "filter", rows, plan(60, 2, 10)))
	data, filter, _ := parted(string(b))
	x, _ := table.Open(b)
	clear(b[len(data) : len(data)+len(filter)-1])
	for _, y := range rows {
		if !x.May([]byte(userOf(y.key))) {
			t.Fatalf("P8.3: a table keeps the filter that it was opened with")
		}
	}
}

// TestTablesAreApart: what is done with one table isn't seen in another one of the same bytes.
func TestTablesAreApart(t *testing.T) {
	rows := letters(30)
	b := []byte(built(t, "apart", rows, plan(60, 2, 10)))
	x, _ := table.Open(b)
	b[0] ^= 1
	y, _ := table.Open(b)
	b[0] ^= 1
	z, _ := table.Open(b)
	for range 2 {
		_, e := x.All()
		_, f := y.All()
		_, g := z.All()
		if e != api.OK || f != api.ErrTableSum || g != api.OK {
			t.Errorf("P8.4: %d, %d, %d", e, f, g)
		}
	}
}
