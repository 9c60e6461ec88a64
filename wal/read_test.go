package wal_test

import (
	"bytes"
	"encoding/binary"
	"hash/crc32"
	"math/rand"
	"slices"
	"strings"
	"testing"

	"moraine/api"
	"moraine/wal"
)

// recordByWords: the record behind b's first at bytes, and where it ends, if it is right by P5.2's words.
func recordByWords(b []byte, at int) (record []byte, end int, right bool) {
	if rest := 64 - at%64; rest < 7 {
		for range rest {
			if at == len(b) || b[at] != 0 {
				return nil, 0, false
			}
			at++
		}
	}
	for kinds := ""; ; {
		blockEnd := at/64*64 + 64
		if at+7 > min(len(b), blockEnd) {
			return nil, 0, false
		}
		sum, n, kind := binary.LittleEndian.Uint32(b[at:]), int(binary.LittleEndian.Uint16(b[at+4:])), b[at+6]
		end := at + 7 + n
		if end > min(len(b), blockEnd) || crc32.Checksum(b[at+6:end], crc32.MakeTable(crc32.Castagnoli)) != sum {
			return nil, 0, false
		}
		record = append(record, b[at+7:end]...)
		kinds += string('0' + rune(min(kind, 9)))
		if kinds == "1" || kinds == "2"+strings.Repeat("3", max(len(kinds)-2, 0))+"4" {
			return record, end, len(record) <= 1<<22
		}
		if kinds != "2"+strings.Repeat("3", len(kinds)-1) || end != blockEnd {
			return nil, 0, false
		}
		at = end
	}
}

// readByWords: what P5.2 says of Read.
func readByWords(b []byte) (records [][]byte, end int) {
	for {
		record, next, right := recordByWords(b, end)
		if !right {
			return records, end
		}
		records, end = append(records, record), next
	}
}

func sameRecords(a, b [][]byte) bool { return slices.EqualFunc(a, b, bytes.Equal) }

// told: that Read tells of b just these records, and that many bytes.
func told(t *testing.T, what string, b []byte, want [][]byte, end int) {
	t.Helper()
	l, n := wal.Read(roomy(b))
	if !sameRecords(l, want) || n != end {
		t.Errorf("%s: %d records, %d bytes, want %d, %d", what, len(l), n, len(want), end)
	}
}

// joined: a log of these pieces.
func joined(pieces ...[]byte) []byte { return slices.Concat(pieces...) }

func TestOneRecord(t *testing.T) {
	for _, n := range []int{0, 1, 56, 57, 58, 113, 114, 115, 171, 172, 5000} {
		b := appended(t, 0, bytesOf(n))
		told(t, "P5.2: one record", b, [][]byte{bytesOf(n)}, len(b))
		told(t, "P5.2: one record, and 0 behind it", append(b, make([]byte, 200)...), [][]byte{bytesOf(n)}, len(b))
		told(t, "P5.2: one record, and no 0 behind it", append(b, 1, 2, 3), [][]byte{bytesOf(n)}, len(b))
	}
}

// TestKindsInEveryOrder: of three fragments, each with kinds from 0 to 6, and 255; the first two fill their blocks.
func TestKindsInEveryOrder(t *testing.T) {
	kinds := []byte{0, 1, 2, 3, 4, 5, 6, 255}
	full := bytesOf(57)
	for _, x := range kinds {
		for _, y := range kinds {
			for _, z := range kinds {
				b := joined(fragment(x, full), fragment(y, full), fragment(z, []byte("end")))
				var want [][]byte
				end := 0
				switch order := string([]byte{'0' + x, '0' + y, '0' + z}); {
				case order == "111":
					want, end = [][]byte{full, full, []byte("end")}, 138
				case order == "124":
					want, end = [][]byte{full, joined(full, []byte("end"))}, 138
				case order == "234":
					want, end = [][]byte{joined(full, full, []byte("end"))}, 138
				case order == "241":
					want, end = [][]byte{joined(full, full), []byte("end")}, 138
				case strings.HasPrefix(order, "11"):
					want, end = [][]byte{full, full}, 128
				case strings.HasPrefix(order, "24"):
					want, end = [][]byte{joined(full, full)}, 128
				case strings.HasPrefix(order, "1"):
					want, end = [][]byte{full}, 64
				}
				told(t, "P5.2: kinds in an order", b, want, end)
			}
		}
	}
}

func TestFragmentsThatDontFill(t *testing.T) {
	full := bytesOf(57)
	for n := range 57 {
		part, rest := bytesOf(n), make([]byte, 57-n)
		told(t, "P5.2: a first one, then a last one in its block", joined(fragment(2, part), fragment(4, nil)), nil, 0)
		told(t, "P5.2: a first one, then 0, then a last one", joined(fragment(2, part), rest, fragment(4, full)), nil, 0)
		told(t, "P5.2: a middle one, then a last one in its block", joined(fragment(2, full), fragment(3, part), fragment(4, nil)), nil, 0)
		told(t, "P5.2: a middle one, then 0, then a last one", joined(fragment(2, full), fragment(3, part), rest, fragment(4, full)), nil, 0)
		told(t, "P5.2: a last one needn't fill", joined(fragment(2, full), fragment(4, part)), [][]byte{joined(full, part)}, 71+n)
		told(t, "P5.2: a whole one needn't fill", joined(fragment(1, part), rest), [][]byte{part}, 7+n)
	}
	ahead := []byte("ahead")
	for n := range 45 {
		rest := make([]byte, 45-n)
		told(t, "P5.2: a first one behind another record, then 0", joined(fragment(1, ahead), fragment(2, bytesOf(n)), rest, fragment(4, full)), [][]byte{ahead}, 12)
	}
	told(t, "P5.2: a first one behind another record that fills", joined(fragment(1, ahead), fragment(2, bytesOf(45)), fragment(4, full)), [][]byte{ahead, joined(bytesOf(45), full)}, 128)
}

func TestEmptyFragments(t *testing.T) {
	full := bytesOf(57)
	told(t, "P5.2: a last one without data", joined(fragment(2, full), fragment(4, nil)), [][]byte{full}, 71)
	told(t, "P5.2: a middle one without data", joined(fragment(2, full), fragment(3, nil), fragment(4, nil)), nil, 0)
	told(t, "P5.2: a first one without data, in 64 bytes", fragment(2, nil), nil, 0)
	lead := fragment(1, bytesOf(50))
	told(t, "P5.2: a first one without data, in 7 bytes", joined(lead, fragment(2, nil), fragment(4, []byte("x"))), [][]byte{bytesOf(50), []byte("x")}, 72)
	told(t, "P5.2: neither has data", joined(lead, fragment(2, nil), fragment(4, nil)), [][]byte{bytesOf(50), nil}, 71)
	told(t, "P5.2: whole ones without data", bytes.Repeat(fragment(1, nil), 9), make([][]byte, 9), 63)
}

func TestFilling(t *testing.T) {
	for rest := 1; rest < 7; rest++ {
		lead := bytesOf(57 - rest)
		b := joined(fragment(1, lead), make([]byte, rest), fragment(1, []byte("x")))
		told(t, "P5.2: filled by 0", b, [][]byte{lead, []byte("x")}, len(b))
		for i := range rest {
			for _, x := range []byte{1, 0x80, 0xFF} {
				c := bytes.Clone(b)
				c[64-rest+i] = x
				told(t, "P5.2: not filled by 0", c, [][]byte{lead}, 64-rest)
				told(t, "P5.2: not filled by 0, cut off", c[:64], [][]byte{lead}, 64-rest)
			}
			told(t, "P5.2: the filling is cut off", b[:64-rest+i], [][]byte{lead}, 64-rest)
		}
		told(t, "P5.2: nothing behind the filling", b[:64], [][]byte{lead}, 64-rest)
		told(t, "P5.2: a fragment without filling", joined(fragment(1, lead), fragment(1, []byte("x"))), [][]byte{lead}, 64-rest)
	}
	told(t, "P5.2: filling where 7 bytes are left", joined(fragment(1, bytesOf(50)), make([]byte, 7), fragment(1, nil)), [][]byte{bytesOf(50)}, 57)
}

func TestSums(t *testing.T) {
	b := joined(fragment(1, []byte("ahead")), fragment(1, []byte("behind")), fragment(1, []byte("last")))
	for i := 12; i < 25; i++ {
		for x := range 255 {
			c := bytes.Clone(b)
			c[i] ^= byte(x + 1)
			told(t, "P5.2: a sum that isn't right", c, [][]byte{[]byte("ahead")}, 12)
		}
	}
	without := fragment(1, []byte("x"))
	binary.LittleEndian.PutUint32(without, crc32.Checksum([]byte("x"), crc32.MakeTable(crc32.Castagnoli)))
	told(t, "P5.2: a sum of the data alone", without, nil, 0)
	binary.BigEndian.PutUint32(without, crc32.Checksum([]byte("\x01x"), crc32.MakeTable(crc32.Castagnoli)))
	told(t, "P5.2: a sum with its highest byte first", without, nil, 0)
}

func TestOutOfTheBlock(t *testing.T) {
	told(t, "P5.2: a byte over its block", fragment(1, bytesOf(58)), nil, 0)
	told(t, "P5.2: far over its block", fragment(1, bytesOf(65535)), nil, 0)
	told(t, "P5.2: 256 bytes", fragment(1, bytesOf(256)), nil, 0)
	lead := fragment(1, bytesOf(40))
	told(t, "P5.2: up to its block's end", joined(lead, fragment(1, bytesOf(10))), [][]byte{bytesOf(40), bytesOf(10)}, 64)
	told(t, "P5.2: over its block's end", joined(lead, fragment(1, bytesOf(11))), [][]byte{bytesOf(40)}, 47)
	high := fragment(1, []byte("x"))
	high[5] = 1
	told(t, "P5.2: the length's high byte", joined(high, make([]byte, 400)), nil, 0)
	told(t, "P5.2: only 0", make([]byte, 1000), nil, 0)
	// What lies behind the list's end is no part of it, though it stands in the same memory.
	whole := joined(fragment(1, []byte("ahead")), fragment(1, []byte("behind")))
	if l, n := wal.Read(whole[:len(whole)-1]); len(l) != 1 || n != 12 {
		t.Errorf("P5.2: a list whose room goes on: %d, %d", len(l), n)
	}
}

func TestTooLongARecord(t *testing.T) {
	for _, at := range []int{0, 57, 60} {
		var lead []byte
		var ahead [][]byte
		if at > 0 {
			ahead = [][]byte{bytesOf(at - 7)}
			lead = appended(t, 0, ahead[0])
		}
		for _, n := range []int{api.MaxRecord, api.MaxRecord + 1, api.MaxRecord + 58} {
			piece, _ := appendByWords(at, bytesOf(n))
			b := joined(lead, piece)
			want, end := ahead, len(lead)
			if n <= api.MaxRecord {
				want, end = append(slices.Clone(ahead), bytesOf(n)), len(b)
			}
			told(t, "P5.2: about MaxRecord bytes", b, want, end)
			behind, _ := appendByWords(len(b), []byte("behind"))
			b = append(b, behind...)
			if n <= api.MaxRecord {
				want, end = append(want, []byte("behind")), len(b)
			}
			told(t, "P5.2: about MaxRecord bytes, and another one", b, want, end)
		}
	}
	endless := append(fragment(2, bytesOf(57)), bytes.Repeat(fragment(3, bytesOf(57)), 100000)...)
	told(t, "P5.2: no last one", endless, nil, 0)
}

// drawnFragments: a log whose fragments mostly fit together, with faults strewn in.
func drawnFragments(r *rand.Rand) []byte {
	var b []byte
	begun := false
	for range r.Intn(12) {
		rest := 64 - len(b)%64
		if rest < 7 {
			filling := make([]byte, rest)
			if r.Intn(20) == 0 {
				filling[r.Intn(rest)] = 1
			}
			b = append(b, filling...)
			rest = 64
		}
		n, more := rest-7, r.Intn(2) == 0
		if !more || r.Intn(20) == 0 {
			n = r.Intn(n + 1)
		}
		kind := map[[2]bool]byte{{false, false}: 1, {false, true}: 2, {true, true}: 3, {true, false}: 4}[[2]bool{begun, more}]
		if r.Intn(20) == 0 {
			kind = byte(r.Intn(6))
		}
		begun = more
		f := fragment(kind, bytesOf(n))
		if r.Intn(30) == 0 {
			f[r.Intn(len(f))] ^= 1 << r.Intn(8)
		}
		b = append(b, f...)
	}
	return b[:len(b)-min(r.Intn(40)/39*r.Intn(30), len(b))]
}

func TestDrawnFragments(t *testing.T) {
	r := rand.New(rand.NewSource(2))
	counts := map[bool]int{}
	for range 30000 {
		b := drawnFragments(r)
		want, end := readByWords(b)
		l, n := wal.Read(roomy(b))
		if !sameRecords(l, want) || n != end {
			t.Fatalf("P5.2: %x: %x, %d, want %x, %d", b, l, n, want, end)
		}
		counts[end == len(b)]++
	}
	if counts[true] < 5000 || counts[false] < 5000 {
		t.Errorf("drawn: %v", counts)
	}
}

func TestDrawnBytes(t *testing.T) {
	r := rand.New(rand.NewSource(3))
	for range 20000 {
		b := make([]byte, r.Intn(200))
		for i := range b {
			b[i] = byte(r.Intn(256)) >> (r.Intn(2) * 7)
		}
		want, end := readByWords(b)
		told(t, "P5.2: drawn bytes", b, want, end)
	}
}
