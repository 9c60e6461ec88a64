package block_test

import (
	"math/rand"
	"strings"
	"testing"

	"moraine/api"
	"moraine/block"
)

func TestSeekAboutEachKey(t *testing.T) {
	for _, restart := range []int{1, 2, 3, 4, 5, 16, 64} {
		for n := range 12 {
			var rows []row
			for i := range n {
				rows = append(rows, row{key(string([]byte{'a', byte('b' + 2*i)}), 5, 1), string([]byte{byte('0' + i)})})
			}
			b := build(t, "seek", rows, restart)
			for i := range n + 1 {
				between := string([]byte{'a', byte('a' + 2*i)})
				found(t, rows, i, b, key(between, 5, 1))
				if i < n {
					user := string([]byte{'a', byte('b' + 2*i)})
					found(t, rows, i, b, key(user, 5, 1))       // itself
					found(t, rows, i, b, key(user, 6, 0))       // ahead of it
					found(t, rows, i+1, b, key(user, 5, 0))     // behind it
					found(t, rows, i+1, b, key(user, 4, 1))     // behind it
					found(t, rows, i+1, b, key(user, 0, 0))     // behind it
					found(t, rows, i, b, key(user, 1<<56-1, 1)) // ahead of all of its user key
					found(t, rows, i+1, b, key(user+"\x00", 1<<56-1, 1))
				}
			}
			found(t, rows, 0, b, key("", 1, 1))
			found(t, rows, 0, b, key("a", 0, 0))
			found(t, rows, n, b, key("b", 1<<56-1, 1))
			found(t, rows, n, b, key(strings.Repeat("\xff", 128), 0, 0))
		}
	}
}

// found: that Seek tells the i-th of the rows, or that there is none.
func found(t *testing.T, rows []row, i int, b, k string) {
	t.Helper()
	x, ok, e := block.Seek([]byte(b), []byte(k))
	if e != api.OK || ok != (i < len(rows)) {
		t.Fatalf("P7.2: Seek of %x among %d: %t, %d", k, len(rows), ok, e)
	}
	if ok && (string(x.Key) != rows[i].key || string(x.Value) != rows[i].value) {
		t.Fatalf("P7.2: Seek of %x among %d: %x, %q, want the %d-th", k, len(rows), x.Key, x.Value, i)
	}
	if !ok && (x.Key != nil || x.Value != nil) {
		t.Fatalf("P7.2: Seek of %x: an entry beside false", k)
	}
}

func TestSeekOfNoKey(t *testing.T) {
	for _, n := range []int{0, 1, 7} {
		b := build(t, "no key", letters(n), 3)
		for _, bad := range []string{"", "x", "1234567", key("a", 1, 2), key("user", 9, 255), key(strings.Repeat("z", 129), 1, 1), strings.Repeat("\x00", 200)} {
			x, ok, e := block.Seek([]byte(b), []byte(bad))
			if x.Key != nil || x.Value != nil || ok || e != api.ErrCodecKey {
				t.Errorf("P7.2: Seek of %x: %x, %t, %d", bad, x.Key, ok, e)
			}
		}
	}
}

func TestSeekInNoBlock(t *testing.T) {
	b := build(t, "no block", letters(5), 2)
	for _, bad := range []string{"", "\x00", "\x00\x00\x00", four(1), b + "\x00", b[1:], b[:len(b)-1], closed("", 0)} {
		for _, k := range []string{key("a", 1, 1), letters(5)[0].key, "", "x", key("a", 1, 2), key(strings.Repeat("z", 129), 1, 1)} {
			x, ok, e := block.Seek([]byte(bad), []byte(k))
			if x.Key != nil || x.Value != nil || ok || e != api.ErrBlockForm {
				t.Errorf("P7.2: Seek(%x, %x): %x, %t, %d", bad, k, x.Key, ok, e)
			}
		}
	}
	// Hurt behind the entry that is sought it is no block either.
	hurt := []byte(b)
	hurt[len(b)-13]++
	if x, ok, e := block.Seek(hurt, []byte(letters(5)[0].key)); x.Key != nil || ok || e != api.ErrBlockForm {
		t.Errorf("P7.2: Seek ahead of what is hurt: %x, %t, %d", x.Key, ok, e)
	}
}

func TestDrawnSeeks(t *testing.T) {
	r := rand.New(rand.NewSource(7))
	for range 1500 {
		rows := drawnRows(r, r.Intn(70))
		b := build(t, "drawn seeks", rows, 1+r.Intn(1+r.Intn(64)))
		for range 8 {
			k := drawnKey(r)
			found(t, rows, firstOf(rows, k), b, k)
		}
		bad := drawnKey(r)
		seek(t, "drawn seeks", b, bad[:r.Intn(len(bad)+1)])
	}
}
