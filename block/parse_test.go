package block_test

import (
	"encoding/binary"
	"math/rand"
	"slices"
	"strings"
	"testing"

	"moraine/api"
	"moraine/block"
)

// some: rows that share nothing, something, their user keys.
func some() []row {
	return []row{
		{key("a", 5, 1), "x"}, {key("a", 4, 0), ""}, {key("ab", 9, 1), "yy"}, {key("b", 9, 1), ""},
		{key("bcd", 3, 1), "zzz"}, {key("bce", 3, 1), "z"}, {key("bcef", 3, 1), ""},
	}
}

func TestCutOffAnywhere(t *testing.T) {
	for _, restart := range []int{1, 2, 3, 7, 64} {
		b := build(t, "cut off", some(), restart)
		for k := range b {
			refused(t, "cut off", b[:k])
			parse(t, "without its first bytes", b[len(b)-k:])
		}
	}
	r := rand.New(rand.NewSource(3))
	for range 300 {
		b := build(t, "cut off", drawnRows(r, 1+r.Intn(12)), 1+r.Intn(5))
		for k := range b {
			parse(t, "cut off", b[:k])
		}
	}
}

func TestBytesBehind(t *testing.T) {
	for _, restart := range []int{1, 3, 64} {
		b := build(t, "bytes behind", some(), restart)
		for x := range 256 {
			refused(t, "a byte behind", b+string([]byte{byte(x)}))
			refused(t, "a byte ahead", string([]byte{byte(x)})+b)
		}
		for _, more := range []string{b, four(0), four(1), four(len(b)), closed("", 0), strings.Repeat("\x00", 16)} {
			parse(t, "bytes behind", b+more)
			refused(t, "bytes behind", b+more)
		}
	}
}

func TestEachByteChanged(t *testing.T) {
	for _, restart := range []int{1, 2, 3, 4, 64} {
		b := build(t, "changed", some(), restart)
		for k := range b {
			for x := range 256 {
				c := []byte(b)
				c[k] = byte(x)
				parse(t, "changed", string(c))
			}
		}
	}
}

func TestShortOnes(t *testing.T) {
	refused(t, "no bytes", "")
	for n := 1; n < 4; n++ {
		refused(t, "short", strings.Repeat("\x00", n))
		refused(t, "short", strings.Repeat("\xff", n))
		refused(t, "short", strings.Repeat("\x01", n))
	}
	taken(t, "no entries", four(0), nil)
	for x := 1; x < 1<<16; x++ {
		refused(t, "four bytes", four(x))
	}
	refused(t, "four bytes", four(-1))
	refused(t, "four bytes", "\x00\x00\x00\x80")
	refused(t, "a place of no entry", closed("", 0))
	refused(t, "a place of no entry", closed("", 1))
	refused(t, "places of no entry", closed("", 0, 0))
	refused(t, "places of no entry", closed("", 0, 11, 22))
	refused(t, "a place by half", "\x00\x00"+four(1))
	refused(t, "as many places as no block has", "\x00\x00\x00\x00"+four(1<<30))
	refused(t, "as many places as no block has", "\x00\x00\x00\x00"+four(-1))
	refused(t, "no places", strings.Repeat("\x00", 8))
}

// spelt: n in more bytes than it needs.
func spelt(n int) string {
	b := []byte(number(n))
	b[len(b)-1] |= 0x80
	return string(b) + "\x00"
}

func TestOtherSpellings(t *testing.T) {
	k, value := key("a", 1, 1), "xyz"
	right := closed(number(0)+number(9)+number(3)+k+value, 0)
	taken(t, "one spelling", right, []row{{k, value}})
	refused(t, "shared in two bytes", closed(spelt(0)+number(9)+number(3)+k+value, 0))
	refused(t, "the key's length in two bytes", closed(number(0)+spelt(9)+number(3)+k+value, 0))
	refused(t, "the value's length in two bytes", closed(number(0)+number(9)+spelt(3)+k+value, 0))
	for i := range 3 {
		for _, bad := range []string{"\x80\x80\x00", strings.Repeat("\xff", 9) + "\x01", strings.Repeat("\xff", 9) + "\x02", strings.Repeat("\xff", 10) + "\x01", strings.Repeat("\x80", 9) + "\x01", "\xff\xff\xff\xff\x0f", "\xff\xff\xff\xff\xff\xff\xff\xff\x7f"} {
			parts := []string{number(0), number(9), number(3)}
			parts[i] = bad
			refused(t, "a number that is too great", closed(strings.Join(parts, "")+k+value, 0))
			refused(t, "a number without more", closed(strings.Join(parts[:i+1], ""), 0))
		}
		refused(t, "a number by half", closed(strings.Repeat("\x00", i)+"\x80", 0))
	}
}

func TestLengthsThatDontFit(t *testing.T) {
	k := key("a", 1, 1)
	for _, c := range [][2]int{{8, 3}, {10, 3}, {9, 2}, {9, 4}, {0, 3}, {0, 12}, {13, 0}, {11, 0}, {9, 1 << 40}, {1 << 40, 3}, {10, 1}} {
		refused(t, "lengths", closed(number(0)+number(c[0])+number(c[1])+k+"xyz", 0))
	}
	taken(t, "lengths", closed(number(0)+number(9)+number(3)+k+"xyz", 0), []row{{k, "xyz"}})
	refused(t, "the first shares something", closed(piece(1, k[1:], ""), 0))
	refused(t, "the first shares something", closed(piece(1, k, ""), 0))
	first, second := key("ab", 1, 1), key("ac", 1, 1)
	head := piece(0, first, "")
	for shared := range 20 {
		parse(t, "shared", closed(head+piece(shared, second[1:], ""), 0))
		refused(t, "more is shared than the key ahead has", closed(head+piece(11+shared, second[1:], ""), 0))
	}
	taken(t, "shared", closed(head+piece(1, second[1:], ""), 0), []row{{first, ""}, {second, ""}})
	refused(t, "the key ahead again", closed(head+piece(10, "", ""), 0))
	refused(t, "a key that the one ahead begins with", closed(piece(0, key(k, 1, 1), "")+piece(9, "", ""), 0))
	refused(t, "half an entry", closed(head+"\x00", 0))
	refused(t, "half an entry", closed(head+"\x01\x09", 0))
}

// TestFewerSharedThanCouldBe: a whole key stands at restarts alone.
func TestFewerSharedThanCouldBe(t *testing.T) {
	first, second, third := key("abc", 1, 1), key("abd", 1, 1), key("abe", 1, 1)
	head := piece(0, first, "v")
	for shared := range 2 {
		refused(t, "fewer", closed(head+piece(shared, second[shared:], "v"), 0))
		refused(t, "fewer, further on", closed(head+piece(2, second[2:], "v")+piece(shared, third[shared:], "v"), 0))
	}
	rows := []row{{first, "v"}, {second, "v"}, {third, "v"}}
	taken(t, "just as many", closed(head+piece(2, second[2:], "v")+piece(2, third[2:], "v"), 0), rows)
	taken(t, "whole keys at restarts", closed(head+piece(0, second, "v")+piece(0, third, "v"), 0, len(head), 2*len(head)), rows)
	two := head + piece(2, second[2:], "v")
	taken(t, "whole keys at restarts", closed(two+piece(0, third, "v"), 0, len(two)), rows)
	for shared := 1; shared < 3; shared++ {
		refused(t, "shared at a restart", closed(two+piece(shared, third[shared:], "v"), 0, len(two)))
		refused(t, "shared at a restart", closed(head+piece(shared, second[shared:], "v"), 0, len(head)))
	}
}

func TestKeysThatNothingBuilds(t *testing.T) {
	good := key("m", 5, 1)
	for _, bad := range []string{"", "x", "1234567", key("z", 1, 2), key("z", 9, 255), key(strings.Repeat("z", 129), 1, 1)} {
		refused(t, "no internal key", closed(piece(0, bad, "v"), 0))
		refused(t, "no internal key behind one", closed(piece(0, good, "v")+piece(0, bad, "v"), 0))
		refused(t, "no internal key at a restart", closed(piece(0, good, "v")+piece(0, bad, "v"), 0, 13))
	}
	for _, low := range []string{good, key("m", 6, 1), key("l", 1, 1), key("", 1, 1)} {
		head := piece(0, good, "v")
		refused(t, "not behind, at a restart", closed(head+piece(0, low, "v"), 0, len(head)))
		shared := 0
		for shared < len(low) && low[shared] == good[shared] {
			shared++
		}
		refused(t, "not behind", closed(head+piece(shared, low[shared:], "v"), 0))
	}
}

// apartRows: n entries whose keys share nothing with the one ahead of them, with the places of all.
func apartRows(n int) ([]row, string, []int) {
	var rows []row
	var body string
	var places []int
	for i := range n {
		x := row{key(string([]byte{byte(i)}), 1, 1), strings.Repeat("v", i%3)}
		rows, places = append(rows, x), append(places, len(body))
		body += piece(0, x.key, x.value)
	}
	return rows, body, places
}

// TestPlacesThatNoRestartBuilds: of keys that share nothing every choice of places is tried: those of each restart are taken.
func TestPlacesThatNoRestartBuilds(t *testing.T) {
	for n := range 9 {
		rows, body, places := apartRows(n)
		for choice := range 1 << n {
			var chosen []int
			built := n == 0
			for i, p := range places {
				if choice>>i&1 == 1 {
					chosen = append(chosen, p)
				}
			}
			for restart := 1; restart <= n; restart++ {
				right := 0
				for i := 0; i < n; i += restart {
					right |= 1 << i
				}
				built = built || choice == right
			}
			if parse(t, "a choice of places", closed(body, chosen...)) != built {
				t.Errorf("P7.5: %d entries, places %b: taken: %t", n, choice, !built)
			}
			if built {
				taken(t, "a choice of places", closed(body, chosen...), rows)
			}
		}
	}
}

func TestPlacesThatAreNone(t *testing.T) {
	_, body, places := apartRows(6)
	right := []int{places[0], places[2], places[4]}
	if !parse(t, "right places", closed(body, right...)) {
		t.Errorf("P7.2: right places are refused")
	}
	for i := range right {
		for _, other := range []int{0, 1, 2, places[1], places[2], places[3], places[4], places[5], right[i] - 1, right[i] + 1, len(body), len(body) + 1, 1 << 31, -1, right[i] + 1<<24} {
			if other != right[i] {
				wrong := slices.Clone(right)
				wrong[i] = other
				refused(t, "another place", closed(body, wrong...))
			}
		}
	}
	for _, wrong := range [][]int{{}, {0, 0}, {0, places[2]}, {0, places[2], places[4], len(body)}, {0, places[4], places[2]}, {0, places[2], places[2]}, {places[2], places[4]}, {0, 0, places[2], places[4]}, {0, places[2], places[4], places[4]}, {1}, {places[1]}} {
		refused(t, "other places", closed(body, wrong...))
	}
	// How many places there are is told once, and is what is there.
	for _, count := range []int{0, 1, 2, 4, 5, 1 << 24} {
		b := closed(body, right...)
		refused(t, "another count", b[:len(b)-4]+four(count))
	}
}

// TestMoreThanAnyRestart: no restart is above 64.
func TestMoreThanAnyRestart(t *testing.T) {
	for n := 60; n <= 140; n++ {
		_, body, places := apartRows(n)
		if parse(t, "one place", closed(body, 0)) != (n <= 64) {
			t.Errorf("P7.5: %d entries, one place", n)
		}
		for _, second := range []int{1, 2, 32, 63, 64, 65, 66, 130} {
			if second >= n {
				continue
			}
			var l []int
			for i := 0; i < n; i += second {
				l = append(l, places[i])
			}
			if parse(t, "places", closed(body, l...)) != (second <= 64) {
				t.Errorf("P7.5: %d entries, every %d-th", n, second)
			}
			if len(l) > 2 {
				refused(t, "the last place is left out", closed(body, l[:len(l)-1]...))
			}
		}
	}
}

// TestKeysThatGrow: each is refused as soon as it is no key, so that no bytes lead to more and more.
func TestKeysThatGrow(t *testing.T) {
	n := 1 << 16
	body := []byte(piece(0, "12345678", ""))
	for i := range n {
		body = append(body, piece(8+i, "x", "")...)
	}
	b := append(body, closed("", 0)...)
	if l, e := block.Parse(b); l != nil || e != api.ErrBlockForm {
		t.Errorf("P7.2: %d entries, %d", len(l), e)
	}
}

// drawnLines: bytes that are often nearly a block.
func drawnLines(r *rand.Rand) string {
	var body, last string
	var places []int
	every := 1 + r.Intn(4)
	rows := drawnRows(r, r.Intn(8))
	for i, x := range rows {
		if i%every == 0 || r.Intn(12) == 0 {
			places = append(places, len(body))
		}
		shared := 0
		for i%every > 0 && shared < len(last) && shared < len(x.key) && last[shared] == x.key[shared] {
			shared++
		}
		if shared > 0 && r.Intn(12) == 0 {
			shared--
		}
		body += piece(shared, x.key[shared:], x.value)
		last = x.key
	}
	if len(places) > 0 && r.Intn(8) == 0 {
		places = slices.Delete(places, len(places)-1, len(places))
	}
	return closed(body, places...)
}

func TestDrawnLines(t *testing.T) {
	r := rand.New(rand.NewSource(4))
	count := 0
	for range 20000 {
		b := drawnLines(r)
		if parse(t, "drawn lines", b) {
			count++
		}
		seek(t, "drawn lines", b, drawnKey(r))
	}
	if count < 5000 || count > 18000 {
		t.Errorf("of the drawn lines %d are blocks", count)
	}
}

// TestHurtBlocks: blocks in which some bytes are changed, put in or taken out; what is taken Build writes.
func TestHurtBlocks(t *testing.T) {
	r := rand.New(rand.NewSource(5))
	for range 20000 {
		b := []byte(build(t, "hurt", drawnRows(r, 1+r.Intn(6)), 1+r.Intn(4)))
		for range 1 + r.Intn(2) {
			i := r.Intn(len(b))
			switch r.Intn(4) {
			case 0:
				b[i] ^= 1 << r.Intn(8)
			case 1:
				b[i] = []byte{0, 1, 8, 9, 0x80, 0xFF}[r.Intn(6)]
			case 2:
				b = slices.Insert(b, i, byte(r.Intn(3)))
			case 3:
				b = slices.Delete(b, i, i+1)
			}
		}
		builtAgain(t, string(b))
	}
}

// builtAgain: P7.5 by the program's own calls.
func builtAgain(t *testing.T, b string) {
	t.Helper()
	if !parse(t, "hurt", b) {
		return
	}
	l, _ := block.Parse([]byte(b))
	for restart := 1; restart <= 64; restart++ {
		if c, _ := block.Build(l, restart); string(c) == b {
			return
		}
	}
	t.Fatalf("P7.5: %x is taken, and no restart builds it", b)
}

func TestDrawnBytes(t *testing.T) {
	r := rand.New(rand.NewSource(6))
	for range 50000 {
		b := make([]byte, r.Intn(40))
		for i := range b {
			b[i] = []byte{0, 0, 0, 1, 8, 9, 'a', byte(r.Intn(256))}[r.Intn(8)]
		}
		if len(b) >= 4 && r.Intn(2) == 0 {
			binary.LittleEndian.PutUint32(b[len(b)-4:], uint32(r.Intn(3)))
		}
		builtAgain(t, string(b))
	}
}
