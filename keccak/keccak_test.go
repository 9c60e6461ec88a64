package keccak_test

import (
	"bytes"
	"encoding/binary"
	"encoding/hex"
	"math/rand"
	"testing"

	"moraine/api"
	"moraine/keccak"
)

func told(h api.Hash) string { return hex.EncodeToString(h[:]) }

// message: n bytes by a rule, those of unlike blocks unlike.
func message(n int) []byte {
	b := make([]byte, n)
	for i := range b {
		b[i] = byte(7*i + i/256 + 3)
	}
	return b
}

func drawn(r *rand.Rand, n int) []byte {
	b := make([]byte, n)
	r.Read(b)
	return b
}

// drawnSize: often at the edge of a block.
func drawnSize(r *rand.Rand) int {
	edges := []int{0, 1, 135, 136, 137, 271, 272, 273, 407, 408, 409}
	if r.Intn(2) == 0 {
		return edges[r.Intn(len(edges))]
	}
	return r.Intn(1000)
}

// pieces: b cut at drawn places; some pieces have nothing, one of them may be the whole of b.
func pieces(r *rand.Rand, b []byte) [][]byte {
	var l [][]byte
	most := []int{1, 9, 137, 300, 1000}[r.Intn(5)]
	for len(b) > 0 {
		n := min(r.Intn(most+1), len(b))
		l = append(l, b[:n])
		b = b[n:]
	}
	if r.Intn(2) == 0 {
		l = append(l, nil, []byte{})
	}
	return l
}

// sumByWords: what P3.2 says, the message filled up as one list.
func sumByWords(b []byte) api.Hash {
	zeros := 135 - len(b)%136
	filled := append(append(bytes.Clone(b), 0x01), make([]byte, zeros)...)
	filled[len(filled)-1] |= 0x80
	var a state
	for len(filled) > 0 {
		for i := range 17 {
			a[i] ^= binary.LittleEndian.Uint64(filled[8*i:])
		}
		a = permuteByWords(a)
		filled = filled[136:]
	}
	var h api.Hash
	for i := range 4 {
		binary.LittleEndian.PutUint64(h[8*i:], a[i])
	}
	return h
}

func TestSumOfExamples(t *testing.T) {
	for text, want := range map[string]string{
		"":    "c5d2460186f7233c927e7db2dcc703c0e500b653ca82273b7bfad8045d85a470",
		"abc": "4e03657aea45a94fc7d47ba826c8d667c0d1e6e33a64a036ec44f58fa12d6c45",
	} {
		if got := told(keccak.Sum([]byte(text))); got != want {
			t.Errorf("P3.2: Sum(%q): %s", text, got)
		}
		s := keccak.New()
		s.Write([]byte(text))
		if got := told(s.Sum()); got != want {
			t.Errorf("P3.3: Sum behind Write(%q): %s", text, got)
		}
	}
	if got := told(keccak.Sum([]byte("a"), nil, []byte("bc"))); got != told(keccak.Sum([]byte("abc"))) {
		t.Errorf("P3.2: Sum(a, nil, bc): %s", got)
	}
}

// The hashes were told by another program.
func TestSumAtBlockEdges(t *testing.T) {
	for _, c := range []struct {
		size int
		want string
	}{
		{0, "c5d2460186f7233c927e7db2dcc703c0e500b653ca82273b7bfad8045d85a470"},
		{1, "69c322e3248a5dfc29d73c5b0553b0185a35cd5bb6386747517ef7e53b15e287"},
		{8, "ad894215c2106b9dfa2c04022025509974a5eb20b9f4cd27ca716967542ecf6e"},
		{134, "0c00ddc2482876f8fa8cc91ed55deedf61049892967f383560faf8a5787f86c5"},
		{135, "00ef96af9cf4b24c7f269d922294444a197d0a33638c2e56634c57e892103a8f"},
		{136, "742061bcad767ed4c4f5883b1dcb1aad11afdcc140dc469d953759b127b9f9ed"},
		{137, "e3371f61e770abf254c34239c3b0099ad90594507415bc81dd0a10b9692bbf2a"},
		{271, "e5d8ed81aec9c96c42d3a0469124061ff338375d4bd593fc641e69286e47c36c"},
		{272, "15be125fbfd2cf188386607b597241a62280f8368392516f1b2ff67f8be8dd7a"},
		{273, "c5cc86c635bc232fd03f326b44103fa43493c6f7a81c4e359c174e25dd549069"},
		{1000, "e9485c2e23cce236b38469f39d88b5146be139ec202ada6b5a65a28ba6582f98"},
	} {
		b := message(c.size)
		s := keccak.New()
		s.Write(b)
		if one, two, three := told(keccak.Sum(b)), told(s.Sum()), told(sumByWords(b)); one != c.want || two != c.want || three != c.want {
			t.Errorf("P3.2: of %d bytes: %s, %s, %s", c.size, one, two, three)
		}
		for k := range c.size {
			if got := told(keccak.Sum(b[:k], b[k:])); got != c.want {
				t.Errorf("P3.4: of %d and %d bytes: %s", k, c.size-k, got)
			}
		}
	}
}

func TestSumOfEachSize(t *testing.T) {
	for n := range 420 {
		b := message(n)
		if keccak.Sum(b) != sumByWords(b) {
			t.Errorf("P3.2: of %d bytes: %s", n, told(keccak.Sum(b)))
		}
	}
	for _, n := range []int{0, 1, 135, 136, 137, 271, 272, 273} {
		for _, x := range []byte{0x00, 0x01, 0x80, 0x81, 0xFF} {
			b := bytes.Repeat([]byte{x}, n)
			if keccak.Sum(b) != sumByWords(b) {
				t.Errorf("P3.2: of %d times %x: %s", n, x, told(keccak.Sum(b)))
			}
		}
	}
}

func TestSumOfNothing(t *testing.T) {
	want := keccak.New().Sum()
	for _, l := range [][][]byte{nil, {}, {nil}, {{}}, {nil, {}, nil}} {
		if got := keccak.Sum(l...); got != want {
			t.Errorf("P3.2: of %d lists without anything: %s", len(l), told(got))
		}
	}
	s := keccak.New()
	s.Write(nil)
	s.Write([]byte{})
	if s.Sum() != want {
		t.Errorf("P3.3: behind writing nothing: %s", told(s.Sum()))
	}
}

func TestPiecesDoNotMatter(t *testing.T) {
	r := rand.New(rand.NewSource(5))
	for range 2000 {
		b := drawn(r, drawnSize(r))
		want := sumByWords(b)
		if got := keccak.Sum(pieces(r, b)...); got != want {
			t.Fatalf("P3.4: Sum of pieces of %x: %s, want %s", b, told(got), told(want))
		}
		s := keccak.New()
		for _, p := range pieces(r, b) {
			s.Write(p)
		}
		if got := s.Sum(); got != want {
			t.Fatalf("P3.4: pieces of %x written: %s, want %s", b, told(got), told(want))
		}
	}
}

func TestSumInBetween(t *testing.T) {
	r := rand.New(rand.NewSource(6))
	for range 400 {
		b := drawn(r, drawnSize(r))
		s, written := keccak.New(), 0
		for _, p := range pieces(r, b) {
			s.Write(p)
			written += len(p)
			for range r.Intn(3) {
				if got := s.Sum(); got != keccak.Sum(b[:written]) {
					t.Fatalf("P3.3: behind %d bytes of %x: %s", written, b, told(got))
				}
			}
		}
		if got := s.Sum(); got != sumByWords(b) || got != s.Sum() {
			t.Fatalf("P3.3: of %x: %s", b, told(got))
		}
	}
}

func TestSpongesInTurns(t *testing.T) {
	r := rand.New(rand.NewSource(7))
	for range 300 {
		sponges := []*keccak.Sponge{keccak.New(), keccak.New()}
		written := make([][]byte, 2)
		for range r.Intn(20) {
			i := r.Intn(2)
			p := drawn(r, drawnSize(r)/2)
			sponges[i].Write(p)
			written[i] = append(written[i], p...)
			if k := r.Intn(2); sponges[k].Sum() != keccak.Sum(written[k]) {
				t.Fatalf("P3.3: sponge %d behind %x and %x: %s", k, written[0], written[1], told(sponges[k].Sum()))
			}
		}
		for k, s := range sponges {
			if s.Sum() != keccak.Sum(written[k]) {
				t.Fatalf("P3.3: sponge %d behind %x and %x: %s", k, written[0], written[1], told(s.Sum()))
			}
		}
	}
}

// What is handed in is neither changed, its spare room included, nor kept.
func TestListsStayTheCallers(t *testing.T) {
	r := rand.New(rand.NewSource(8))
	for range 200 {
		n := drawnSize(r)
		room := drawn(r, n+200)
		before := bytes.Clone(room)
		want := keccak.Sum(before[:n])
		s := keccak.New()
		s.Write(room[:n])
		if got := keccak.Sum(room[:n], room[n:n]); got != want || !bytes.Equal(room, before) {
			t.Fatalf("P3.2: Sum of %d bytes changed what it was handed, or looked behind it", n)
		}
		clear(room)
		if got := s.Sum(); got != want {
			t.Fatalf("P3.3: the sponge kept the list of %d bytes that was written", n)
		}
		first := s.Sum()
		clear(first[:])
		if s.Sum() != want {
			t.Fatal("P3.3: an answer is touched by what is done with another one")
		}
	}
}
