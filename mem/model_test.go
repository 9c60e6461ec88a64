package mem_test

import (
	"bytes"
	"iter"
	"math/rand"
	"slices"
	"strings"
	"testing"

	"moraine/api"
	"moraine/mem"
)

// row: an entry of the model, with its tower's height.
type row struct {
	user   string
	seq    uint64
	kind   int
	value  string
	height int
}

// key: the row's internal key, by the words of P2.5.
func (r row) key() string {
	n := 256*r.seq + uint64(r.kind)
	tail := make([]byte, 8)
	for i := range tail {
		tail[i] = byte(n)
		n /= 256
	}
	return r.user + string(tail)
}

// compareRows: by the words of P2.6.
func compareRows(a, b row) int {
	switch {
	case a.user != b.user:
		return strings.Compare(a.user, b.user)
	case a.seq > b.seq:
		return -1
	case a.seq < b.seq:
		return 1
	}
	return b.kind - a.kind
}

// model: what the chapter says of a table, as one list in the order of being put.
type model struct {
	heights []int
	rows    []row
}

func (m *model) height() int {
	if len(m.heights) == 0 {
		return 1
	}
	h := m.heights[len(m.rows)%len(m.heights)]
	if h < 1 {
		return 1
	}
	if h > 12 {
		return 12
	}
	return h
}

func (m *model) put(x row) api.Errno {
	if len(x.user) > 128 || x.seq >= 1<<56 || x.kind != 0 && x.kind != 1 {
		return api.ErrCodecKey
	}
	if len(x.value) > 16384 {
		return api.ErrMemValue
	}
	for _, y := range m.rows {
		if x.user == y.user && x.seq == y.seq && x.kind == y.kind {
			return api.ErrMemTwice
		}
	}
	x.height = m.height()
	m.rows = append(m.rows, x)
	return api.OK
}

func (m *model) sorted() []row {
	return slices.SortedFunc(slices.Values(m.rows), compareRows)
}

func (m *model) get(user string, seq uint64) (string, int, bool) {
	for _, x := range m.sorted() {
		if x.user == user && x.seq <= seq {
			return x.value, x.kind, true
		}
	}
	return "", 0, false
}

func (m *model) from(user string) []row {
	var l []row
	for _, x := range m.sorted() {
		if x.user >= user {
			l = append(l, x)
		}
	}
	return l
}

func (m *model) level(i int) []string {
	var l []string
	for _, x := range m.sorted() {
		if i >= 0 && x.height > i {
			l = append(l, x.key())
		}
	}
	return l
}

func (m *model) size() int {
	n := 0
	for _, x := range m.rows {
		n += len(x.user) + 8 + len(x.value)
	}
	return n
}

// roomy: b with other bytes in the room behind it.
func roomy(b string) []byte {
	return []byte(b + "\xa5\x00\x01\xff\xa5\x00\x01\xff\xa5")[:len(b)]
}

func put(m *mem.Table, x row) api.Errno {
	return m.Put(roomy(x.user), x.seq, x.kind, roomy(x.value))
}

// gives: that an iterator gives just these rows.
func gives(t *testing.T, what string, all iter.Seq[api.KV], want []row) {
	t.Helper()
	i := 0
	for x := range all {
		if i == len(want) || string(x.Key) != want[i].key() || string(x.Value) != want[i].value {
			t.Fatalf("%s: entry %d of %d: %x, %.40x", what, i, len(want), x.Key, x.Value)
		}
		i++
	}
	if i != len(want) {
		t.Fatalf("%s: %d entries, want %d", what, i, len(want))
	}
}

func getIs(t *testing.T, what string, table *mem.Table, m *model, user string, seq uint64) {
	t.Helper()
	value, kind, ok := table.Get(roomy(user), seq)
	v, k, o := m.get(user, seq)
	if string(value) != v || kind != k || ok != o {
		t.Fatalf("%s: Get(%q, %d): %.40q, %d, %t, want %.40q, %d, %t", what, user, seq, value, kind, ok, v, k, o)
	}
}

func levelsAre(t *testing.T, what string, table *mem.Table, m *model) {
	t.Helper()
	for i := -3; i <= 15; i++ {
		var got []string
		for _, k := range table.Level(i) {
			got = append(got, string(k))
		}
		if want := m.level(i); !slices.Equal(got, want) {
			t.Fatalf("%s: Level(%d): %x, want %x", what, i, got, want)
		}
	}
}

// same: that a table tells all that the model tells.
func same(t *testing.T, what string, table *mem.Table, m *model) {
	t.Helper()
	if table.Len() != len(m.rows) || table.Size() != m.size() {
		t.Fatalf("%s: Len %d, Size %d, want %d, %d", what, table.Len(), table.Size(), len(m.rows), m.size())
	}
	gives(t, what+": All", table.All(), m.sorted())
	levelsAre(t, what, table, m)
	for _, x := range m.rows {
		for _, user := range []string{x.user, x.user + "\x00", x.user + "\xff", x.user[:len(x.user)/2]} {
			gives(t, what+": From", table.From(roomy(user)), m.from(user))
			for _, seq := range []uint64{0, x.seq - 1, x.seq, x.seq + 1, 1<<56 - 1, 1 << 56, 1<<64 - 1} {
				getIs(t, what, table, m, user, seq)
			}
		}
	}
}

// made: a table of rows, and its model; each Put answers as the model's, and Len and Size follow it.
func made(t *testing.T, heights []int, rows ...row) (*mem.Table, *model) {
	t.Helper()
	table, m := mem.New(heights), &model{heights: heights}
	for i, x := range rows {
		if got, want := put(table, x), m.put(x); got != want {
			t.Fatalf("P6.2: Put %d of %q, %d, %d: %d, want %d", i, x.user, x.seq, x.kind, got, want)
		}
		if table.Len() != len(m.rows) || table.Size() != m.size() {
			t.Fatalf("P6.3: behind Put %d: Len %d, Size %d, want %d, %d", i, table.Len(), table.Size(), len(m.rows), m.size())
		}
	}
	return table, m
}

// drawnUser: of few letters, so that keys begin alike and are met again.
func drawnUser(r *rand.Rand) string {
	b := make([]byte, []int{0, 1, 1, 2, 2, 3, 127, 128}[r.Intn(8)])
	for i := range b {
		b[i] = []byte{0, 'a', 0xFF}[r.Intn(3)]
	}
	if len(b) > 3 {
		b = append(bytes.Repeat([]byte{'a'}, len(b)-1), b[0])
	}
	return string(b)
}

func drawnRow(r *rand.Rand) row {
	seq := []uint64{uint64(r.Intn(4)), uint64(r.Intn(300)), 1 << r.Intn(56), 1<<56 - 1 - uint64(r.Intn(2))}[r.Intn(4)]
	return row{user: drawnUser(r), seq: seq, kind: r.Intn(2), value: strings.Repeat(string('a'+rune(r.Intn(26))), r.Intn(20))}
}

// drawnRows: with keys that are put twice.
func drawnRows(r *rand.Rand, n int) []row {
	var l []row
	for range n {
		l = append(l, drawnRow(r))
	}
	return l
}

func drawnHeights(r *rand.Rand) []int {
	l := make([]int, r.Intn(9))
	for i := range l {
		l[i] = []int{1, 2, 3, 12, r.Intn(13), r.Intn(40) - 20}[r.Intn(6)]
	}
	return l
}
