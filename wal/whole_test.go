package wal_test

import (
	"bytes"
	"math/rand"
	"slices"
	"testing"

	"moraine/wal"
)

// written: a log of records, where each ends, and which of its bytes are a fragment's length.
type written struct {
	b       []byte
	records [][]byte
	ends    []int
	lengths map[int]int
}

// ahead: how many records lie wholly ahead of a place, and where they end.
func (w written) ahead(place int) (int, int) {
	n, end := 0, 0
	for n < len(w.ends) && w.ends[n] <= place {
		end = w.ends[n]
		n++
	}
	return n, end
}

// drawnRecord: often at an edge; its bytes often 0, so that faults hide well.
func drawnRecord(r *rand.Rand) []byte {
	n := []int{0, 1, r.Intn(12), 40 + r.Intn(20), 56, 57, 58, 113, 114, 115, r.Intn(200), r.Intn(700)}[r.Intn(12)]
	b := make([]byte, n)
	for i := range b {
		b[i] = []byte{0, 0, 1, 2, 3, 4, 0xFF, byte(r.Intn(256))}[r.Intn(8)]
	}
	return b
}

func drawnLog(t *testing.T, r *rand.Rand, most int) written {
	t.Helper()
	w := written{lengths: map[int]int{}}
	for range r.Intn(most + 1) {
		record := drawnRecord(r)
		piece := appended(t, len(w.b), record)
		_, heads := appendByWords(len(w.b), record)
		for _, h := range heads {
			w.lengths[len(w.b)+h+4], w.lengths[len(w.b)+h+5] = 1, 1
		}
		w.b = append(w.b, piece...)
		w.records = append(w.records, record)
		w.ends = append(w.ends, len(w.b))
	}
	return w
}

func TestAllAreTold(t *testing.T) {
	r := rand.New(rand.NewSource(4))
	for range 3000 {
		w := drawnLog(t, r, 30)
		told(t, "P5.3: all records", w.b, w.records, len(w.b))
		n := 0
		for _, record := range w.records {
			n += wal.Length(n, len(record))
		}
		if n != len(w.b) {
			t.Fatalf("P5.1: %d bytes, by Length %d", len(w.b), n)
		}
	}
}

func TestCutOffAnywhere(t *testing.T) {
	r := rand.New(rand.NewSource(5))
	for range 60 {
		w := drawnLog(t, r, 12)
		for cut := range len(w.b) + 1 {
			n, end := w.ahead(cut)
			told(t, "P5.3: cut off", w.b[:cut], w.records[:n], end)
		}
	}
}

// otherBytes: what a byte may be changed to: by a bit, or to anything.
func otherBytes(r *rand.Rand, x byte) []byte {
	return []byte{x ^ 1<<r.Intn(8), x ^ byte(1+r.Intn(255)), ^x}
}

func TestAByteChanged(t *testing.T) {
	r := rand.New(rand.NewSource(6))
	for range 60 {
		w := drawnLog(t, r, 12)
		for i := range w.b {
			n, end := w.ahead(i)
			for _, x := range otherBytes(r, w.b[i]) {
				c := bytes.Clone(w.b)
				c[i] = x
				want, upTo := w.records[:n], end
				if w.lengths[i] == 1 {
					want, upTo = readByWords(c)
				}
				told(t, "P5.3: a byte changed", c, want, upTo)
			}
		}
	}
}

func TestEachKindChanged(t *testing.T) {
	w := written{b: joined(appended(t, 0, []byte("ahead")), appended(t, 12, bytesOf(200)))}
	for at := 12; at < len(w.b); at += 64 - at%64 {
		for x := range 255 {
			c := bytes.Clone(w.b)
			c[at+6] ^= byte(x + 1)
			told(t, "P5.3: a kind changed", c, [][]byte{[]byte("ahead")}, 12)
		}
	}
}

// goesOn: that records appended where Read ended are told, behind those that it told.
func goesOn(t *testing.T, r *rand.Rand, b []byte) {
	t.Helper()
	records, end := wal.Read(b)
	c := bytes.Clone(b[:end])
	for range 1 + r.Intn(3) {
		record := drawnRecord(r)
		records = append(records, record)
		c = append(c, appended(t, len(c), record)...)
		told(t, "P5.4: appended where Read ended", c, records, len(c))
	}
}

func TestGoingOn(t *testing.T) {
	r := rand.New(rand.NewSource(7))
	for range 40 {
		w := drawnLog(t, r, 10)
		for cut := range len(w.b) + 1 {
			goesOn(t, r, w.b[:cut])
		}
		for i := range w.b {
			c := bytes.Clone(w.b)
			c[i] ^= byte(1 + r.Intn(255))
			goesOn(t, r, c)
		}
	}
	for range 10000 {
		goesOn(t, r, drawnFragments(r))
	}
	goesOn(t, r, nil)
	for rest := range 64 {
		goesOn(t, r, append(appended(t, 0, bytesOf(57-rest%57)), 1, 2, 3))
	}
}

// spoilt writes over an answer and the room behind it.
func spoilt(b []byte) {
	b = b[:cap(b)]
	for i := range b {
		b[i] ^= 0x5A
	}
}

func TestNothingHandedInIsChanged(t *testing.T) {
	r := rand.New(rand.NewSource(8))
	for range 500 {
		w := drawnLog(t, r, 8)
		b, record := roomy(w.b), roomy(drawnRecord(r))
		log, data := bytes.Clone(b[:cap(b)]), bytes.Clone(record[:cap(record)])
		records, _ := wal.Read(b)
		piece, _ := wal.Append(len(b), record)
		want := bytes.Clone(piece)
		if !bytes.Equal(b[:cap(b)], log) || !bytes.Equal(record[:cap(record)], data) {
			t.Fatal("what was handed in was changed")
		}
		spoilt(b)
		spoilt(record)
		if !sameRecords(records, w.records) || !bytes.Equal(piece, want) {
			t.Fatal("what was handed in was kept")
		}
	}
}

func TestAnswersShareNothing(t *testing.T) {
	r := rand.New(rand.NewSource(9))
	for range 300 {
		w := drawnLog(t, r, 8)
		b := bytes.Clone(w.b)
		other, _ := wal.Read(b)
		for i := range w.records {
			l, _ := wal.Read(b)
			spoilt(l[i])
			l[i] = w.records[i]
			if !sameRecords(l, w.records) || !bytes.Equal(b, w.b) {
				t.Fatalf("record %d shares memory with another list", i)
			}
			clear(l[:cap(l)])
		}
		if !sameRecords(other, w.records) {
			t.Fatal("an answer was touched by what was done with another one")
		}
		record := drawnRecord(r)
		piece := appended(t, len(b), record)
		want := slices.Clone(piece)
		spoilt(appended(t, len(b), record))
		if !bytes.Equal(piece, want) || !bytes.Equal(appended(t, len(b), record), want) {
			t.Fatal("an appended piece was touched")
		}
	}
}
