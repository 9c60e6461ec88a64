package freezer_test

import (
	"errors"
	"fmt"
	"math/rand"
	"slices"
	"strings"
	"testing"

	"moraine/api"
	"moraine/disk"
	"moraine/freezer"
)

// seeded runs a test by several seeds, side by side.
func seeded(t *testing.T, count int, test func(t *testing.T, seed int64)) {
	for seed := range count {
		t.Run(fmt.Sprint(seed), func(t *testing.T) {
			t.Parallel()
			test(t, int64(seed))
		})
	}
}

func newDisk(t *testing.T, capacity int) *disk.Disk {
	t.Helper()
	d, e := disk.New(capacity)
	if e != api.OK {
		t.Fatal(e)
	}
	return d
}

func opened(t *testing.T, d *disk.Disk, tables []string) *freezer.Freezer {
	t.Helper()
	return openedWith(t, d, tables, freezer.PartBytes)
}

func openedWith(t *testing.T, d *disk.Disk, tables []string, room int) *freezer.Freezer {
	t.Helper()
	f, err := freezer.OpenWith(d, tables, room)
	if f == nil || err != nil {
		t.Fatalf("P12.1, P12.5: %v", err)
	}
	return f
}

func names() []string { return []string{"head", "body"} }

func item(values ...string) [][]byte {
	var l [][]byte
	for _, v := range values {
		l = append(l, []byte(v))
	}
	return l
}

// is: whether an error is that number, wrapped as chapter 11 says: faults, one in the other, and the number at their end.
func is(err error, want api.Errno) bool {
	if want == api.OK {
		return err == nil
	}
	var f *api.Fault
	var n api.Errno
	if !errors.As(err, &f) || error(f) != err || !errors.Is(err, want) || !errors.As(err, &n) || n != want || api.Of(err) != want {
		return false
	}
	for {
		in, ok := err.(*api.Fault)
		if !ok {
			break
		}
		err = in.Err
	}
	return err == error(want)
}

// say: what a freezer tells: Tail, Head, and each item's values.
func say(f *freezer.Freezer, tables int) string {
	var s strings.Builder
	fmt.Fprint(&s, f.Tail(), "-", f.Head(), ":")
	for n := f.Tail(); n < f.Head(); n++ {
		for i := range tables {
			b, err := f.Get(i, n)
			if err != nil {
				fmt.Fprint(&s, "!", int(api.Of(err)))
			}
			fmt.Fprint(&s, string(b), ",")
		}
	}
	return s.String()
}

// model: a freezer by the chapter's words.
type model struct {
	tables           []string
	room             int
	tail, head, sure int
	items            map[int][]string
	serial           int  // tells values apart, also those of one item that is appended anew
	great            bool // its values are great ones
	turn             int  // how many deeds were drawn
}

func newModel(tables []string, room int) *model {
	return &model{tables: tables, room: room, items: map[int][]string{}}
}

func (m *model) say() string {
	var s strings.Builder
	fmt.Fprint(&s, m.tail, "-", m.head, ":")
	for n := m.tail; n < m.head; n++ {
		for _, v := range m.items[n] {
			fmt.Fprint(&s, v, ",")
		}
	}
	return s.String()
}

// cut takes the items away that aren't from Tail to Head - 1.
func (m *model) cut() {
	for n := range m.items {
		if n < m.tail || n >= m.head {
			delete(m.items, n)
		}
	}
}

func (m *model) open(d *disk.Disk) (*freezer.Freezer, error) {
	return freezer.OpenWith(d, m.tables, m.room)
}

// agree: that a freezer tells what the model does.
func agree(t *testing.T, f *freezer.Freezer, m *model) {
	t.Helper()
	if got := say(f, len(m.tables)); got != m.say() {
		t.Fatalf("P12.2: %s, not %s", got, m.say())
	}
	for i := range m.tables {
		for _, n := range []int{m.tail - 1, m.head, m.head + 1, -1} {
			if b, err := f.Get(i, n); len(b) != 0 || !is(err, api.ErrFreezerItem) {
				t.Fatalf("P12.2: Get(%d, %d) of %s: %q, %v", i, n, m.say(), b, err)
			}
		}
	}
}

// deed: something to be done to a freezer.
type deed struct {
	what   string
	n      int
	values []string
}

func (x deed) do(f *freezer.Freezer) error {
	switch x.what {
	case "append":
		return f.Append(x.n, item(x.values...))
	case "head":
		return f.TruncateHead(x.n)
	case "tail":
		return f.TruncateTail(x.n)
	}
	return f.Sync()
}

// done: what the model is behind a deed that was done.
func (m *model) done(x deed) {
	switch x.what {
	case "append":
		m.items[m.head] = x.values
		m.head++
		return
	case "head":
		m.head = x.n
	case "tail":
		m.tail = x.n
	}
	m.cut()
	m.sure = m.head
}

func (m *model) drawnValue(r *rand.Rand, table int) string {
	m.serial++
	size := []int{0, 1, 3, 10, 40, 150}[r.Intn(6)]
	if m.room > 1000 && r.Intn(12) == 0 || m.great {
		size = r.Intn(api.MaxValue + 1)
	}
	v := fmt.Sprint(m.serial, "/", table)
	return v + strings.Repeat("x", max(size-len(v), 0))
}

// drawn: a deed that can be done; each kind is among the first ones.
func (m *model) drawn(r *rand.Rand) deed {
	m.turn++
	switch k := r.Intn(12); {
	case m.turn == 4:
		return deed{what: "sync"}
	case m.turn == 7:
		return deed{what: "tail", n: m.head}
	case m.turn == 10:
		return deed{what: "head", n: m.tail}
	case k == 0:
		return deed{what: "head", n: m.tail + r.Intn(m.head-m.tail+1)}
	case k == 1:
		return deed{what: "head", n: max(m.tail, m.head-r.Intn(3))}
	case k == 2:
		return deed{what: "tail", n: m.tail + r.Intn(m.head-m.tail+1)}
	case k == 3:
		return deed{what: "tail", n: min(m.head, m.tail+r.Intn(3))}
	case k == 4:
		return deed{what: "sync"}
	}
	x := deed{what: "append", n: m.head}
	for i := range m.tables {
		x.values = append(x.values, m.drawnValue(r, i))
	}
	return x
}

// outcome: how far a row of deeds came.
type outcome struct {
	f   *freezer.Freezer
	m   *model
	did deed // the last one, if it answered an error
	err error
}

// play opens a freezer and does a row of deeds that are drawn, up to the first error.
func play(t *testing.T, d *disk.Disk, m *model, r *rand.Rand, count int, last outcome) outcome {
	t.Helper()
	out := outcome{m: m}
	if out.f, out.err = m.open(d); out.err != nil {
		out.did = last.did // which may be there or not still
		return out
	}
	settled(t, out.f, last)
	for range count {
		x := m.drawn(r)
		if out.err = x.do(out.f); out.err != nil {
			out.did = x
			return out
		}
		m.done(x)
	}
	return out
}

// settled: that a freezer that was opened has what P12.5 asks for, which is the model's from then on.
func settled(t *testing.T, f *freezer.Freezer, out outcome) {
	t.Helper()
	m := out.m
	least, most, tails := m.sure, m.head, []int{m.tail}
	switch out.did.what {
	case "append":
		m.items[m.head] = out.did.values
		most++
	case "head":
		least = min(least, out.did.n)
	case "tail":
		tails = append(tails, out.did.n)
	}
	if !slices.Contains(tails, f.Tail()) {
		t.Fatalf("P12.5: Tail %d, not one of %v", f.Tail(), tails)
	}
	if f.Head() < max(least, f.Tail()) || f.Head() > most {
		t.Fatalf("P12.5: %s %d: Head %d, not from %d to %d (Tail %d)", out.did.what, out.did.n, f.Head(), least, most, f.Tail())
	}
	m.tail, m.head, m.sure = f.Tail(), f.Head(), f.Head()
	m.cut()
	agree(t, f, m)
}

// drawnCrash: some of what was pending survives.
func drawnCrash(r *rand.Rand) api.Crash {
	c := api.Crash{Names: r.Intn(6)}
	most := []int{2, 20, 200, 2000, 50000}[r.Intn(5)]
	for range 600 {
		c.Bytes = append(c.Bytes, r.Intn(most))
	}
	return c
}

const crashKinds = 7

// crash: by kinds, nothing that was pending survives, all of it, all bytes, all names, some of it.
func crash(r *rand.Rand, kind int) api.Crash {
	all := api.Crash{Names: 1 << 20, Bytes: slices.Repeat([]int{1 << 26}, 4000)}
	switch kind {
	case 0:
		return api.Crash{}
	case 1:
		return all
	case 2:
		return api.Crash{Bytes: all.Bytes}
	case 3:
		return api.Crash{Names: all.Names}
	}
	return drawnCrash(r)
}

// anyCrash: of any kind.
func anyCrash(r *rand.Rand) api.Crash { return crash(r, r.Intn(crashKinds)) }

// someTables: tables of as many names.
func someTables(count int) []string {
	var l []string
	for i := range count {
		l = append(l, strings.Repeat(string(rune('a'+i)), 1+i*2))
	}
	return l
}

// rooms: of parts with one item, few, many, and as they are.
func rooms() []int { return []int{1, 40, 300, freezer.PartBytes} }
