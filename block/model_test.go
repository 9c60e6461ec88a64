package block_test

import (
	"bytes"
	"encoding/binary"
	"math/rand"
	"slices"
	"strings"
	"testing"

	"moraine/api"
	"moraine/block"
)

// row: an entry, its key as bytes that may be an internal key or not.
type row struct{ key, value string }

// key: an internal key, by chapter 2's words.
func key(user string, seq uint64, kind int) string {
	return user + string(binary.LittleEndian.AppendUint64(nil, 256*seq+uint64(kind)))
}

// internal: whether it is an internal key; its user key, and 256 times its sequence number and its kind.
func internal(k string) (string, uint64, bool) {
	n := len(k) - 8
	if n < 0 || n > 128 || k[n] > 1 {
		return "", 0, false
	}
	return k[:n], binary.LittleEndian.Uint64([]byte(k[n:])), true
}

// ahead: whether internal key a stands ahead of internal key b.
func ahead(a, b string) bool {
	user, moment, _ := internal(a)
	user2, moment2, _ := internal(b)
	if user != user2 {
		return user < user2
	}
	return moment > moment2
}

func number(n int) string { return string(binary.AppendUvarint(nil, uint64(n))) }

func four(n int) string { return string(binary.LittleEndian.AppendUint32(nil, uint32(n))) }

// piece: an entry of a block with whatever it says that it shares.
func piece(shared int, tail, value string) string {
	return number(shared) + number(len(tail)) + number(len(value)) + tail + value
}

// closed: entries with whatever places behind them.
func closed(body string, places ...int) string {
	b := []byte(body)
	for _, p := range places {
		b = append(b, four(p)...)
	}
	return string(b) + four(len(places))
}

// buildByWords: what P7.1 says.
func buildByWords(rows []row, restart int) (string, api.Errno) {
	if restart < 1 || restart > 64 {
		return "", api.ErrBlockPlan
	}
	var body strings.Builder
	var places []int
	for i, x := range rows {
		if _, _, ok := internal(x.key); !ok || i > 0 && !ahead(rows[i-1].key, x.key) {
			return "", api.ErrBlockOrder
		}
		shared := 0
		if i%restart == 0 {
			places = append(places, body.Len())
		} else {
			for shared < len(x.key) && strings.HasPrefix(rows[i-1].key, x.key[:shared+1]) {
				shared++
			}
		}
		body.WriteString(piece(shared, x.key[shared:], x.value))
	}
	return closed(body.String(), places...), api.OK
}

// loosely: the rows that a block's bytes could be meant for, whether or not something builds them.
func loosely(b string) ([]row, bool) {
	end := len(b) - 4
	if end < 0 {
		return nil, false
	}
	end -= 4 * int(binary.LittleEndian.Uint32([]byte(b[end:])))
	if end < 0 {
		return nil, false
	}
	var rows []row
	for b = b[:end]; len(b) > 0; {
		var l [3]uint64
		for i := range l {
			n, width := binary.Uvarint([]byte(b))
			if width <= 0 {
				return nil, false
			}
			l[i], b = n, b[width:]
		}
		last := ""
		if len(rows) > 0 {
			last = rows[len(rows)-1].key
		}
		if l[0] > uint64(len(last)) || l[1] > uint64(len(b)) || l[2] > uint64(len(b))-l[1] {
			return nil, false
		}
		k := last[:l[0]] + b[:l[1]]
		if _, _, ok := internal(k); !ok {
			return nil, false
		}
		rows = append(rows, row{k, b[l[1] : l[1]+l[2]]})
		b = b[l[1]+l[2]:]
	}
	return rows, true
}

// parseByWords: what P7.2 says: each restart is tried (but those that are greater than there are entries, which build alike).
func parseByWords(b string) ([]row, api.Errno) {
	rows, ok := loosely(b)
	for restart := 1; ok && restart <= min(64, len(rows)+1); restart++ {
		if c, e := buildByWords(rows, restart); e == api.OK && c == b {
			return rows, api.OK
		}
	}
	return nil, api.ErrBlockForm
}

// seekByWords: what P7.2 says.
func seekByWords(b string, k string) (row, bool, api.Errno) {
	rows, e := parseByWords(b)
	if e != api.OK {
		return row{}, false, e
	}
	if _, _, ok := internal(k); !ok {
		return row{}, false, api.ErrCodecKey
	}
	if i := firstOf(rows, k); i < len(rows) {
		return rows[i], true, api.OK
	}
	return row{}, false, api.OK
}

// firstOf: which of the rows is the first whose key isn't ahead of k; how many there are, if there is none.
func firstOf(rows []row, k string) int {
	for i, x := range rows {
		if !ahead(x.key, k) {
			return i
		}
	}
	return len(rows)
}

// roomy: b with other bytes in the room behind it.
func roomy(b string) []byte {
	return []byte(b + "\xa5\x00\x01\xff\xa5\x00\x01\xff\xa5")[:len(b)]
}

// entries: rows as they are handed in.
func entries(rows []row) []api.KV {
	l := make([]api.KV, 0, len(rows)+1)
	for _, x := range rows {
		l = append(l, api.KV{Key: roomy(x.key), Value: roomy(x.value)})
	}
	return l
}

func sameRows(l []api.KV, rows []row) bool {
	return slices.EqualFunc(l, rows, func(x api.KV, y row) bool {
		return string(x.Key) == y.key && string(x.Value) == y.value
	})
}

// build: that Build does what the words say; its bytes.
func build(t *testing.T, what string, rows []row, restart int) string {
	t.Helper()
	b, e := block.Build(entries(rows), restart)
	want, f := buildByWords(rows, restart)
	if string(b) != want || e != f {
		t.Fatalf("P7.1: %s: restart %d, %d rows: %.200x, %d, want %.200x, %d", what, restart, len(rows), b, e, want, f)
	}
	if e != api.OK && b != nil {
		t.Fatalf("P7.1: %s: %x beside error %d", what, b, e)
	}
	return want
}

// parse: that Parse does what the words say; whether it took b.
func parse(t *testing.T, what string, b string) bool {
	t.Helper()
	l, e := block.Parse(roomy(b))
	want, f := parseByWords(b)
	if e != f || !sameRows(l, want) || e != api.OK && l != nil {
		t.Fatalf("P7.2: %s: Parse(%.200x): %d entries, %d, want %d, %d", what, b, len(l), e, len(want), f)
	}
	return e == api.OK
}

// refused: that Parse takes no b, by the words too.
func refused(t *testing.T, what string, b string) {
	t.Helper()
	if parse(t, what, b) {
		t.Errorf("P7.2: %s: %.200x is taken", what, b)
	}
}

// taken: that Parse takes b, and tells those rows.
func taken(t *testing.T, what string, b string, rows []row) {
	t.Helper()
	l, e := block.Parse(roomy(b))
	if e != api.OK || !sameRows(l, rows) {
		t.Fatalf("P7.4: %s: Parse(%.200x): %d entries, %d", what, b, len(l), e)
	}
}

// seek: that Seek does what the words say.
func seek(t *testing.T, what string, b, k string) {
	t.Helper()
	x, ok, e := block.Seek(roomy(b), roomy(k))
	want, ok2, f := seekByWords(b, k)
	if string(x.Key) != want.key || string(x.Value) != want.value || ok != ok2 || e != f {
		t.Fatalf("P7.2: %s: Seek(%.200x, %x): %x, %t, %d, want %x, %t, %d", what, b, k, x.Key, ok, e, want.key, ok2, f)
	}
	if !ok && (x.Key != nil || x.Value != nil) {
		t.Fatalf("P7.2: %s: an entry beside false", what)
	}
}

// drawnUser: of few letters, so that users are often alike and begin alike; some as long as may be.
func drawnUser(r *rand.Rand) string {
	b := make([]byte, r.Intn(5))
	if r.Intn(20) == 0 {
		b = make([]byte, 126+r.Intn(3))
	}
	letters := []byte{0, 1, 'a', 0xFF}
	for i := range b {
		b[i] = letters[r.Intn(len(letters))]
	}
	if len(b) > 8 { // alike nearly to the end
		copy(b, bytes.Repeat([]byte{'a'}, len(b)-2))
	}
	return string(b)
}

func drawnKey(r *rand.Rand) string {
	seq := uint64(r.Intn(4))
	if r.Intn(4) == 0 {
		seq = r.Uint64() >> (8 + r.Intn(56))
	}
	return key(drawnUser(r), seq, r.Intn(2))
}

func drawnValue(r *rand.Rand) string {
	n := r.Intn(6)
	if r.Intn(30) == 0 {
		n = 120 + r.Intn(20)
	}
	b := make([]byte, n)
	r.Read(b)
	return string(b)
}

// drawnRows: at most n entries that rise.
func drawnRows(r *rand.Rand, n int) []row {
	var rows []row
	for range n {
		rows = append(rows, row{drawnKey(r), drawnValue(r)})
	}
	return risen(rows)
}

// risen: the rows in order, one of each key.
func risen(rows []row) []row {
	slices.SortFunc(rows, func(a, b row) int {
		switch {
		case ahead(a.key, b.key):
			return -1
		case ahead(b.key, a.key):
			return 1
		}
		return 0
	})
	return slices.CompactFunc(rows, func(a, b row) bool { return a.key == b.key })
}

// letters: n entries, keys alike but for some bytes, values of several lengths.
func letters(n int) []row {
	var rows []row
	for i := range n {
		user := "user" + string([]byte{byte('a' + i/9), byte('a' + i%9)})
		rows = append(rows, row{key(user, uint64(1+i%3), i%2), strings.Repeat("v", i%4)})
	}
	return rows
}
