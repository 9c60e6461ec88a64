package wal_test

import (
	"bytes"
	"hash/crc32"
	"math"
	"math/rand"
	"testing"

	"moraine/api"
	"moraine/wal"
)

// roomy: b with other bytes in the room behind it.
func roomy(b []byte) []byte {
	c := append(bytes.Clone(b), bytes.Repeat([]byte{0xA5, 0, 1, 2, 3, 4}, 12)...)
	return c[:len(b)]
}

// bytesOf: n bytes, each unlike its neighbours.
func bytesOf(n int) []byte {
	b := make([]byte, n)
	for i := range b {
		b[i] = byte(i*37 + i>>8*11 + 5)
	}
	return b
}

// fragment: of any kind and data, by the chapter's words.
func fragment(kind byte, data []byte) []byte {
	sum := crc32.Checksum(append([]byte{kind}, data...), crc32.MakeTable(crc32.Castagnoli))
	head := []byte{byte(sum), byte(sum >> 8), byte(sum >> 16), byte(sum >> 24), byte(len(data)), byte(len(data) / 256), kind}
	return append(head, data...)
}

// appendByWords: what P5.1 says, step by step, of records of any length; and where the fragments begin in it.
func appendByWords(at int, record []byte) (b []byte, heads []int) {
	place := max(at, 0) % 64
	for laid := 0; len(heads) == 0 || laid < len(record); {
		r := 64 - (place+len(b))%64
		if r < 7 {
			b = append(b, make([]byte, r)...)
			continue
		}
		n := min(r-7, len(record)-laid)
		kind := byte(3)
		switch isFirst, isLast := len(heads) == 0, laid+n == len(record); {
		case isFirst && isLast:
			kind = 1
		case isFirst:
			kind = 2
		case isLast:
			kind = 4
		}
		heads = append(heads, len(b))
		b = append(b, fragment(kind, record[laid:laid+n])...)
		laid += n
	}
	return b, heads
}

func appended(t *testing.T, at int, record []byte) []byte {
	t.Helper()
	b, e := wal.Append(at, roomy(record))
	if e != api.OK {
		t.Fatalf("P5.1: Append(%d, %d bytes): %d", at, len(record), e)
	}
	return b
}

// heldToWords: that Append and Length tell of a record what P5.1 says.
func heldToWords(t *testing.T, at int, record []byte) {
	t.Helper()
	want, _ := appendByWords(at, record)
	if b := appended(t, at, record); !bytes.Equal(b, want) {
		t.Errorf("P5.1: Append(%d, %d bytes): %.200x, want %.200x", at, len(record), b, want)
	}
	if n := wal.Length(at, len(record)); n != len(want) {
		t.Errorf("P5.1: Length(%d, %d): %d, want %d", at, len(record), n, len(want))
	}
}

func TestExamples(t *testing.T) {
	for _, c := range []struct {
		at     int
		record string
		want   []byte
	}{
		{0, "ab", fragment(1, []byte("ab"))},
		{57, "x", append(fragment(2, nil), fragment(4, []byte("x"))...)},
		{60, "x", append(make([]byte, 4), fragment(1, []byte("x"))...)},
		{0, "", fragment(1, nil)},
		{57, "", fragment(1, nil)},
		{56, "x", fragment(1, []byte("x"))},
		{56, "xy", append(fragment(2, []byte("x")), fragment(4, []byte("y"))...)},
		{58, "", append(make([]byte, 6), fragment(1, nil)...)},
		{63, "", append(make([]byte, 1), fragment(1, nil)...)},
		{64, "x", fragment(1, []byte("x"))},
	} {
		if b := appended(t, c.at, []byte(c.record)); !bytes.Equal(b, c.want) {
			t.Errorf("P5.1: Append(%d, %q): %x, want %x", c.at, c.record, b, c.want)
		}
	}
	if b := appended(t, 0, []byte("ab")); len(b) != 9 || string(b[4:]) != "\x02\x00\x01ab" {
		t.Errorf("P5.1: %x", b)
	}
	if l, n := wal.Read(nil); len(l) != 0 || n != 0 {
		t.Errorf("P5.2: Read of no bytes: %d, %d", len(l), n)
	}
}

func TestKindsOfLengths(t *testing.T) {
	for n, want := range map[int]string{0: "1", 1: "1", 56: "1", 57: "1", 58: "24", 113: "24", 114: "24", 115: "234", 171: "234", 172: "2334"} {
		b := appended(t, 0, bytesOf(n))
		kinds := ""
		for at := 0; at < len(b); at += 64 {
			kinds += string('0' + rune(b[at+6]))
		}
		if kinds != want || len(b) != n+7*len(want) {
			t.Errorf("P5.1: %d bytes: kinds %s, %d bytes", n, kinds, len(b))
		}
	}
}

func TestEveryPlace(t *testing.T) {
	for at := range 3 * 64 {
		for _, n := range []int{0, 1, 2, 56, 57, 58, 113, 114, 115, 170, 171, 172, 1000} {
			heldToWords(t, at, bytesOf(n))
		}
	}
	for at := range 64 {
		for n := range 130 {
			heldToWords(t, at, bytesOf(n))
		}
	}
}

func TestFarPlaces(t *testing.T) {
	for _, at := range []int{-1, -5, -63, -64, -65, math.MinInt, math.MinInt + 1, 1 << 40, 1<<40 + 60, math.MaxInt, math.MaxInt - 6, math.MaxInt - 7, math.MaxInt - 63} {
		for _, n := range []int{0, 1, 57, 58, 115, 4000} {
			heldToWords(t, at, bytesOf(n))
		}
	}
	if b := appended(t, -60, []byte("x")); !bytes.Equal(b, fragment(1, []byte("x"))) {
		t.Errorf("P5.1: an at below 0: %x", b)
	}
}

func TestDrawnPlaces(t *testing.T) {
	r := rand.New(rand.NewSource(1))
	for range 2000 {
		heldToWords(t, r.Intn(1<<20), bytesOf(r.Intn(3000)))
	}
}

func TestLongest(t *testing.T) {
	longest := bytesOf(api.MaxRecord)
	for _, at := range []int{0, 1, 57, 60, -3} {
		heldToWords(t, at, longest)
	}
	for _, n := range []int{api.MaxRecord + 1, api.MaxRecord + 64, 2 * api.MaxRecord} {
		if b, e := wal.Append(0, make([]byte, n)); len(b) != 0 || e != api.ErrWalLong {
			t.Errorf("P5.1: %d bytes: %d, %d", n, len(b), e)
		}
		if b, e := wal.Append(-1, make([]byte, n)); len(b) != 0 || e != api.ErrWalLong {
			t.Errorf("P5.1: %d bytes, an at below 0: %d, %d", n, len(b), e)
		}
	}
}

func TestLengthOfNoRecord(t *testing.T) {
	for _, n := range []int{-1, -7, -57, math.MinInt, api.MaxRecord + 1, api.MaxRecord + 57, math.MaxInt, math.MaxInt - 1} {
		for _, at := range []int{0, 60, -1, math.MinInt, math.MaxInt} {
			if got := wal.Length(at, n); got != 0 {
				t.Errorf("P5.1: Length(%d, %d): %d", at, n, got)
			}
		}
	}
	for n := range 3000 {
		b, _ := appendByWords(n%64, make([]byte, n))
		if got := wal.Length(n%64, n); got != len(b) {
			t.Errorf("P5.1: Length(%d, %d): %d, want %d", n%64, n, got, len(b))
		}
	}
}
