package table_test

import (
	"encoding/binary"
	"hash/crc32"
	"math"
	"math/rand"
	"slices"
	"strings"
	"testing"

	"moraine/api"
	"moraine/block"
	"moraine/table"
)

// row: an entry, its key as bytes that may be an internal key or not.
type row struct{ key, value string }

// key: an internal key, by chapter 2's words.
func key(user string, seq uint64, kind int) string {
	return user + string(binary.LittleEndian.AppendUint64(nil, 256*seq+uint64(kind)))
}

// userOf, momentOf: of an internal key; the moment is 256 times its sequence number and its kind.
func userOf(k string) string { return k[:len(k)-8] }

func momentOf(k string) uint64 { return binary.LittleEndian.Uint64([]byte(k[len(k)-8:])) }

// ahead: whether internal key a stands ahead of internal key b.
func ahead(a, b string) bool {
	if userOf(a) != userOf(b) {
		return userOf(a) < userOf(b)
	}
	return momentOf(a) > momentOf(b)
}

func number(n int) string { return string(binary.AppendUvarint(nil, uint64(n))) }

func four(n uint32) string { return string(binary.LittleEndian.AppendUint32(nil, n)) }

func eight(n uint64) string { return string(binary.LittleEndian.AppendUint64(nil, n)) }

func sum(s string) uint32 { return crc32.Checksum([]byte(s), crc32.MakeTable(crc32.Castagnoli)) }

// sealed: s and its sum.
func sealed(s string) string { return s + four(sum(s)) }

// foot: a footer of whatever numbers.
func foot(numbers ...uint64) string {
	s := ""
	for _, n := range numbers {
		s += eight(n)
	}
	return sealed(s) + "moraine1"
}

// joined: a file of data blocks (with sums), a filter and an index (without them).
func joined(data, filter, index string) string {
	at := len(data) + len(filter) + 4
	return data + sealed(filter) + sealed(index) + foot(uint64(len(data)), uint64(len(filter)), uint64(at), uint64(len(index)))
}

// parted: the parts of a file that joined would make.
func parted(file string) (data, filter, index string) {
	n := func(i int) int { return int(binary.LittleEndian.Uint64([]byte(file[len(file)-44+8*i:]))) }
	return file[:n(0)], file[n(0) : n(0)+n(1)], file[n(2) : n(2)+n(3)]
}

// place: what the index has of a data block.
func place(at, size int) string { return number(at) + number(size) }

// blockOf: a block of rows that rise.
func blockOf(restart int, rows ...row) string {
	b, e := block.Build(entries(rows), restart)
	if e != api.OK {
		panic("rows that don't rise")
	}
	return string(b)
}

// filterOf: a filter of users.
func filterOf(bits int, users ...string) string {
	var keys [][]byte
	for _, u := range users {
		keys = append(keys, []byte(u))
	}
	f, e := block.Filter(keys, bits)
	if e != api.OK {
		panic("no such bits")
	}
	return string(f)
}

// buildByWords: what P8.2 says, of a sound plan and rows that rise.
func buildByWords(rows []row, p api.Plan) string {
	var data strings.Builder
	var index, now []row
	var users []string
	size := 0
	for i, x := range rows {
		if !slices.Contains(users, userOf(x.key)) {
			users = append(users, userOf(x.key))
		}
		now = append(now, x)
		size += len(x.key) + len(x.value)
		if size >= p.Block || i == len(rows)-1 {
			b := blockOf(p.Restart, now...)
			index = append(index, row{x.key, place(data.Len(), len(b))})
			data.WriteString(sealed(b))
			now, size = nil, 0
		}
	}
	return joined(data.String(), filterOf(p.Bits, users...), blockOf(1, index...))
}

// model: a table that was opened: its data blocks with their sums, and their last keys by the index.
type model struct {
	blocks, lasts []string
	filter        string
}

// openByWords: what P8.3 says; numbers are floats where they could wrap round, and exact as far as a file reaches.
func openByWords(b string) (*model, api.Errno) {
	if len(b) < 44 || b[len(b)-8:] != "moraine1" {
		return nil, api.ErrTableForm
	}
	end := len(b) - 44
	if four(sum(b[end:end+32])) != b[end+32:end+36] {
		return nil, api.ErrTableSum
	}
	var n [4]float64
	for i := range n {
		n[i] = float64(binary.LittleEndian.Uint64([]byte(b[end+8*i:])))
	}
	if n[2]+n[3]+4 != float64(end) || n[0]+n[1]+4 != n[2] {
		return nil, api.ErrTableForm
	}
	filter, index := b[int(n[0]):int(n[2])], b[int(n[2]):end]
	for _, s := range []string{index, filter} {
		if sealed(s[:len(s)-4]) != s {
			return nil, api.ErrTableSum
		}
	}
	l, e := block.Parse([]byte(index[:len(index)-4]))
	if e != api.OK || len(l) == 0 {
		return nil, api.ErrTableForm
	}
	m := &model{filter: filter[:len(filter)-4]}
	at := 0
	for _, x := range l {
		begin, size, ok := twoNumbers(string(x.Value))
		if !ok || begin != float64(at) || begin+size+4 > n[0] {
			return nil, api.ErrTableForm
		}
		m.blocks = append(m.blocks, b[at:at+int(size)+4])
		m.lasts = append(m.lasts, string(x.Key))
		at += int(size) + 4
	}
	if float64(at) != n[0] {
		return nil, api.ErrTableForm
	}
	return m, api.OK
}

// twoNumbers: those that s is, each in its one spelling.
func twoNumbers(s string) (float64, float64, bool) {
	x, n := binary.Uvarint([]byte(s))
	if n <= 0 {
		return 0, 0, false
	}
	y, k := binary.Uvarint([]byte(s[n:]))
	short := string(binary.AppendUvarint(binary.AppendUvarint(nil, x), y))
	return float64(x), float64(y), k > 0 && short == s
}

// look: what P8.4 says of looking at a block.
func (m *model) look(i int) ([]row, api.Errno) {
	s := m.blocks[i]
	if sealed(s[:len(s)-4]) != s {
		return nil, api.ErrTableSum
	}
	l, e := block.Parse([]byte(s[:len(s)-4]))
	if e != api.OK || len(l) == 0 || string(l[len(l)-1].Key) != m.lasts[i] {
		return nil, api.ErrTableForm
	}
	return rowsOf(l), api.OK
}

func (m *model) may(user string) bool { return block.May([]byte(m.filter), []byte(user)) }

func (m *model) get(user string, seq uint64) (string, int, bool, api.Errno) {
	if !m.may(user) || len(user) > 128 {
		return "", 0, false, api.OK
	}
	k := key(user, min(seq, 1<<56-1), 1)
	for i, last := range m.lasts {
		if ahead(last, k) {
			continue
		}
		rows, e := m.look(i)
		for _, x := range rows {
			if ahead(x.key, k) {
				continue
			}
			if userOf(x.key) != user {
				return "", 0, false, api.OK
			}
			return x.value, int(momentOf(x.key) % 256), true, api.OK
		}
		return "", 0, false, e
	}
	return "", 0, false, api.OK
}

func (m *model) all() ([]row, api.Errno) {
	var l []row
	for i := range m.blocks {
		rows, e := m.look(i)
		if e != api.OK {
			return nil, e
		}
		l = append(l, rows...)
	}
	return l, api.OK
}

func (m *model) between(least, most string) ([]row, api.Errno) {
	var l []row
	for i, last := range m.lasts {
		if userOf(last) < least {
			continue
		}
		rows, e := m.look(i)
		if e != api.OK {
			return nil, e
		}
		for _, x := range rows {
			if u := userOf(x.key); u >= least && (most == "" || u <= most) {
				l = append(l, x)
			}
		}
		if most != "" && userOf(last) > most {
			break
		}
	}
	return l, api.OK
}

// roomy: b with other bytes in the room behind it.
func roomy(b string) []byte {
	return []byte(b + "\xa5\x00\x01\xff\xa5\x00\x01\xff\xa5moraine1")[:len(b)]
}

// entries: rows as they are handed in.
func entries(rows []row) []api.KV {
	l := make([]api.KV, 0, len(rows)+1)
	for _, x := range rows {
		l = append(l, api.KV{Key: roomy(x.key), Value: roomy(x.value)})
	}
	return l
}

func rowsOf(l []api.KV) []row {
	var rows []row
	for _, x := range l {
		rows = append(rows, row{string(x.Key), string(x.Value)})
	}
	return rows
}

// built: that Build does what the words say; its bytes.
func built(t *testing.T, what string, rows []row, p api.Plan) string {
	t.Helper()
	b, e := table.Build(entries(rows), p)
	if want := buildByWords(rows, p); e != api.OK || string(b) != want {
		t.Fatalf("P8.2: %s: %d rows, %v: %.300x, %d, want %.300x", what, len(rows), p, b, e, want)
	}
	return string(b)
}

// unbuilt: that Build refuses, with that error.
func unbuilt(t *testing.T, what string, rows []row, p api.Plan, want api.Errno) {
	t.Helper()
	if b, e := table.Build(entries(rows), p); e != want || b != nil {
		t.Errorf("P8.2: %s: %d rows, %v: %.100x, %d, want %d", what, len(rows), p, b, e, want)
	}
}

// opened: that Open does what the words say; the table and its model, nil if it is none.
func opened(t *testing.T, what, file string) (*table.Table, *model) {
	t.Helper()
	x, e := table.Open(roomy(file))
	m, f := openByWords(file)
	if e != f || (x == nil) != (m == nil) {
		t.Fatalf("P8.3: %s: Open(%.600x): %v, %d, want %d", what, file, x != nil, e, f)
	}
	return x, m
}

// refused: that Open answers that error, and the words too.
func refused(t *testing.T, what, file string, want api.Errno) {
	t.Helper()
	opened(t, what, file)
	if x, e := table.Open([]byte(file)); x != nil || e != want {
		t.Errorf("P8.3: %s: Open(%.600x): %d, want %d", what, file, e, want)
	}
}

// got: that Get does what the words say.
func got(t *testing.T, what string, x *table.Table, m *model, user string, seq uint64) {
	t.Helper()
	v, kind, ok, e := x.Get(roomy(user), seq)
	v2, kind2, ok2, f := m.get(user, seq)
	if string(v) != v2 || kind != kind2 || ok != ok2 || e != f || !ok && v != nil {
		t.Fatalf("P8.4: %s: Get(%x, %d): %x, %d, %t, %d, want %x, %d, %t, %d", what, user, seq, v, kind, ok, e, v2, kind2, ok2, f)
	}
}

// ranged: that Range does what the words say.
func ranged(t *testing.T, what string, x *table.Table, m *model, least, most string) {
	t.Helper()
	l, e := x.Range(roomy(least), roomy(most))
	want, f := m.between(least, most)
	if e != f || !slices.Equal(rowsOf(l), want) || e != api.OK && l != nil {
		t.Fatalf("P8.4: %s: Range(%x, %x): %d entries, %d, want %d, %d", what, least, most, len(l), e, len(want), f)
	}
}

// alike: that Open, and all calls of the table, do what the words say.
func alike(t *testing.T, what, file string, users []string) {
	t.Helper()
	x, m := opened(t, what, file)
	if m == nil {
		return
	}
	l, e := x.All()
	want, f := m.all()
	if e != f || !slices.Equal(rowsOf(l), want) || e != api.OK && l != nil {
		t.Fatalf("P8.4: %s: All: %d entries, %d, want %d, %d", what, len(l), e, len(want), f)
	}
	if x.Blocks() != len(m.blocks) {
		t.Fatalf("P8.4: %s: %d blocks, want %d", what, x.Blocks(), len(m.blocks))
	}
	for _, u := range users {
		if x.May(roomy(u)) != m.may(u) {
			t.Fatalf("P8.4: %s: May(%x): %t", what, u, !m.may(u))
		}
		for _, seq := range moments() {
			got(t, what, x, m, u, seq)
		}
		for _, most := range users {
			ranged(t, what, x, m, u, most)
		}
	}
}

// moments: sequence numbers about those that rows have, and about the greatest one.
func moments() []uint64 {
	return []uint64{0, 1, 2, 3, 4, 1<<56 - 2, 1<<56 - 1, 1 << 56, 1 << 63, math.MaxUint64}
}

// about: users at, between, ahead of and behind those of the rows.
func about(rows []row) []string {
	users := []string{"", "\x00", "\xff", strings.Repeat("\xff", 128), strings.Repeat("a", 129), strings.Repeat("\xff", 200)}
	for _, x := range rows {
		u := userOf(x.key)
		users = append(users, u, u+"\x00", strings.TrimSuffix(u, "a")+"5")
	}
	slices.Sort(users)
	return slices.Compact(users)
}

func plan(block, restart, bits int) api.Plan {
	return api.Plan{Block: block, Restart: restart, Bits: bits, Table: 1000}
}

// letters: n rows of 20 bytes each, of users that have some entries each.
func letters(n int) []row {
	var rows []row
	for i := range n {
		user := "us" + string([]byte{byte('a' + i/15), byte('a' + i/3%5)})
		rows = append(rows, row{key(user, uint64(3-i%3), i%2), strings.Repeat(string([]byte{byte(i)}), 8)})
	}
	return rows
}

// drawnUser: of few letters, so that users are often alike and begin alike; some as long as may be.
func drawnUser(r *rand.Rand) string {
	n := r.Intn(4)
	long := ""
	if r.Intn(20) == 0 {
		long = strings.Repeat("a", 125)
	}
	b := make([]byte, n)
	for i := range b {
		b[i] = "\x00\x01a\xff"[r.Intn(4)]
	}
	return long + string(b)
}

// drawnRows: at most n entries that rise.
func drawnRows(r *rand.Rand, n int) []row {
	var rows []row
	for range n {
		seq := uint64(r.Intn(5))
		if r.Intn(6) == 0 {
			seq = r.Uint64() >> (8 + r.Intn(56))
		}
		v := make([]byte, r.Intn(9))
		if r.Intn(20) == 0 {
			v = make([]byte, 100+r.Intn(200))
		}
		r.Read(v)
		rows = append(rows, row{key(drawnUser(r), seq, r.Intn(2)), string(v)})
	}
	slices.SortFunc(rows, func(a, b row) int {
		switch {
		case ahead(a.key, b.key):
			return -1
		case ahead(b.key, a.key):
			return 1
		}
		return 0
	})
	return slices.CompactFunc(rows, func(a, b row) bool { return a.key == b.key })
}

func drawnPlan(r *rand.Rand) api.Plan {
	return api.Plan{Block: 16 + r.Intn(150), Restart: 1 + r.Intn(64), Bits: 1 + r.Intn(64), Table: 16 + r.Intn(1<<22-15)}
}
