package rlp_test

import (
	"bytes"
	"math/rand"
	"slices"
	"testing"

	"moraine/api"
	"moraine/rlp"
)

func TestBackFromBytes(t *testing.T) {
	r := rand.New(rand.NewSource(6))
	for range 20000 {
		x := drawnItem(r, 6)
		b := encoded(t, x)
		if y, e := rlp.Decode(b); !alike(x, y) || e != api.OK || !rlp.Equal(x, y) {
			t.Fatalf("P4.4: %v: %v, %d", x, y, e)
		}
		behind := slices.Concat(b, drawnBytes(r))
		if y, n, e := rlp.First(behind); !alike(x, y) || n != len(b) || e != api.OK {
			t.Fatalf("P4.4: %v, with bytes behind it: %v, %d, %d", x, y, n, e)
		}
		for range 3 {
			cut := r.Intn(len(b))
			if y, n, e := rlp.First(b[:cut]); e != api.ErrRlpShort || n != 0 || !alike(y, api.Item{}) {
				t.Fatalf("P4.4: %d bytes of %x: %v, %d, %d", cut, b, y, n, e)
			}
		}
	}
}

func TestFilledUp(t *testing.T) {
	for _, x := range []api.Item{text(""), text("a"), list(), many(4095), long(65000), long(65533), nested(15, text("dog"))} {
		b := encoded(t, x)
		for _, fill := range []byte{0, 0x80, 0xFF} {
			whole := append(bytes.Clone(b), bytes.Repeat([]byte{fill}, api.MaxRlp-len(b))...)
			if y, n, e := rlp.First(whole); !alike(x, y) || n != len(b) || e != api.OK {
				t.Errorf("P4.4: an encoding of %d bytes, filled up to MaxRlp: %d, %d", len(b), n, e)
			}
			if y, n, e := rlp.First(append(whole, fill)); !alike(y, api.Item{}) || n != 0 || e != api.ErrRlpLong {
				t.Errorf("P4.4: and one more: %d, %d", n, e)
			}
		}
	}
}

func TestWhatIsReadIsWrittenSo(t *testing.T) {
	r := rand.New(rand.NewSource(7))
	taken := 0
	for range 60000 {
		b := drawnBytes(r)
		if r.Intn(2) == 0 {
			b = hurt(r, bytesByWords(drawnItem(r, 4)))
		}
		x, n, e := rlp.First(b)
		if e != api.OK {
			continue
		}
		taken++
		if !bytes.Equal(encoded(t, x), b[:n]) {
			t.Fatalf("P4.4: another spelling: %x", b[:n])
		}
		if y, e := rlp.Decode(b[:n]); !alike(x, y) || e != api.OK {
			t.Fatalf("P4.4: %x alone: %v, %d", b[:n], y, e)
		}
	}
	if taken < 10000 {
		t.Errorf("drawn: %d", taken)
	}
}

// TestNoBeginning: in the order byte by byte an encoding that begins another one would stand right ahead of such a one.
func TestNoBeginning(t *testing.T) {
	r := rand.New(rand.NewSource(8))
	seen := map[string]api.Item{}
	var row []string
	for range 30000 {
		x := drawnItem(r, 3)
		b := string(encoded(t, x))
		if y, ok := seen[b]; ok {
			if !alike(x, y) {
				t.Fatalf("P4.4: %x is %v and %v", b, x, y)
			}
			continue
		}
		seen[b] = x
		row = append(row, b)
	}
	slices.Sort(row)
	for i := range row[1:] {
		if bytes.HasPrefix([]byte(row[i+1]), []byte(row[i])) {
			t.Fatalf("P4.4: %x begins like %x", row[i+1], row[i])
		}
	}
}

// spoilt writes over all lists of an answer, and over the room behind them.
func spoilt(x api.Item) {
	for i := range x.Bytes[:cap(x.Bytes)] {
		x.Bytes[:cap(x.Bytes)][i] ^= 0x5A
	}
	for _, y := range x.Items {
		spoilt(y)
	}
	for i := range x.Items[:cap(x.Items)] {
		x.Items[:cap(x.Items)][i] = text("spoilt")
	}
}

// copied: x in memory of its own, with other things in the room behind its lists.
func copied(x api.Item) api.Item {
	y := api.Item{List: x.List, Bytes: roomy(x.Bytes)}
	for _, z := range x.Items {
		y.Items = append(y.Items, copied(z))
	}
	y.Items = append(y.Items, text("room"), list(text("room")))[:len(x.Items)]
	return y
}

// behind: what stands in the room behind an item's lists, and behind those in it.
func behind(x api.Item) []byte {
	b := bytes.Clone(x.Bytes[len(x.Bytes):cap(x.Bytes)])
	for _, y := range x.Items[:cap(x.Items)] {
		b = append(append(b, y.Bytes...), byte(len(y.Items)))
	}
	for _, y := range x.Items {
		b = append(b, behind(y)...)
	}
	return b
}

func TestNothingHandedInIsChanged(t *testing.T) {
	r := rand.New(rand.NewSource(9))
	for range 2000 {
		x := drawnItem(r, 4)
		given := copied(x)
		room := behind(given)
		b := encoded(t, given)
		rlp.Equal(given, given)
		want := bytes.Clone(b)
		spoilt(api.Item{Bytes: encoded(t, given)})
		if !alike(x, given) || !bytes.Equal(room, behind(given)) {
			t.Fatalf("P4.1: %v was changed", x)
		}
		spoilt(given)
		if !bytes.Equal(b, want) {
			t.Fatalf("P4.1: an answer was touched: %x, %x", b, want)
		}
	}
}

func TestNothingReadIsShared(t *testing.T) {
	r := rand.New(rand.NewSource(10))
	for range 2000 {
		x := drawnItem(r, 4)
		b := roomy(encoded(t, x))
		before := bytes.Clone(b[:cap(b)])
		y, _ := rlp.Decode(b)
		z, _, _ := rlp.First(b)
		spoilt(y)
		if !alike(x, z) || !bytes.Equal(b[:cap(b)], before) {
			t.Fatalf("P4.2: what was told of %x was touched", before)
		}
		spoilt(api.Item{Bytes: b})
		if !alike(x, z) {
			t.Fatalf("P4.2: what was handed in was kept: %x", before)
		}
	}
}

// leaves: the strings of an item, in order.
func leaves(x api.Item) []api.Item {
	if !x.List {
		return []api.Item{x}
	}
	var l []api.Item
	for _, y := range x.Items {
		l = append(l, leaves(y)...)
	}
	return l
}

func TestNoTwoListsOfOneAnswerAreShared(t *testing.T) {
	x := list(text("ab"), list(text("cd"), text("ef")), text(""), list(), text("gh"), list(list(text("ij"))))
	b := encoded(t, x)
	for i := range leaves(x) {
		y, _ := rlp.Decode(b)
		want := leaves(x)
		got := leaves(y)
		spoilt(got[i])
		for j := range want {
			if i != j && !alike(got[j], want[j]) {
				t.Errorf("P4.2: the strings %d and %d share memory", i, j)
			}
		}
		for _, z := range y.Items {
			_ = append(z.Bytes, 'x')
			_ = append(z.Items, text("x"))
		}
		if z, e := rlp.Decode(b); !alike(x, z) || e != api.OK {
			t.Errorf("P4.2: a later answer was touched: %v", z)
		}
	}
}

func TestNumbersAreNewMemory(t *testing.T) {
	w := api.Word{20: 3, 31: 9}
	for range 2 {
		n, v := rlp.Uint(300), rlp.Word(w)
		if !bytes.Equal(n, unhex("82 01 2C")) || !bytes.Equal(v, unhex("8C 03 00 00 00 00 00 00 00 00 00 00 09")) {
			t.Errorf("P4.3: %x, %x", n, v)
		}
		spoilt(api.Item{Bytes: n})
		spoilt(api.Item{Bytes: v})
	}
	b := roomy(rlp.Uint(300))
	before := bytes.Clone(b[:cap(b)])
	if n, e := rlp.Unuint(b); n != 300 || e != api.OK || !bytes.Equal(b[:cap(b)], before) {
		t.Errorf("P4.3: %d, %d, %x", n, e, b)
	}
	if v, e := rlp.Unword(b); v != (api.Word{30: 1, 31: 0x2C}) || e != api.OK || !bytes.Equal(b[:cap(b)], before) {
		t.Errorf("P4.3: %x, %d, %x", v, e, b)
	}
}
