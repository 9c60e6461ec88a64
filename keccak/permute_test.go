package keccak_test

import (
	"crypto/sha3"
	"encoding/binary"
	"math"
	"math/bits"
	"math/rand"
	"testing"

	"moraine/keccak"
)

type state = [25]uint64

// place: the number of the lane (x, y), both modulo 5.
func place(x, y int) int { return (x+5)%5 + 5*((y+5)%5) }

// turnsByWords: r of each lane, by P3.1's rule.
func turnsByWords() [25]int {
	var r [25]int
	x, y := 1, 0
	for t := range 24 {
		r[place(x, y)] = (t + 1) * (t + 2) / 2 % 64
		x, y = y, (2*x+3*y)%5
	}
	return r
}

// constantsByWords: of each round, by P3.1's register.
func constantsByWords() [24]uint64 {
	var l [24]uint64
	register := 1
	for round := range l {
		for j := range 7 {
			l[round] |= uint64(register&1) << (1<<j - 1)
			register *= 2
			if register >= 256 {
				register = (register - 256) ^ 0x71
			}
		}
	}
	return l
}

func columns(a state) [5]uint64 {
	var c [5]uint64
	for x := range 5 {
		for y := range 5 {
			c[x] ^= a[place(x, y)]
		}
	}
	return c
}

// permuteByWords: what P3.1 says, lane by lane.
func permuteByWords(a state) state {
	r := turnsByWords()
	for _, constant := range constantsByWords() {
		c := columns(a)
		var moved, mixed state
		for x := range 5 {
			for y := range 5 {
				lane := a[place(x, y)] ^ c[(x+4)%5] ^ bits.RotateLeft64(c[(x+1)%5], 1)
				moved[place(y, 2*x+3*y)] = bits.RotateLeft64(lane, r[place(x, y)])
			}
		}
		for x := range 5 {
			for y := range 5 {
				mixed[place(x, y)] = moved[place(x, y)] ^ ^moved[place(x+1, y)]&moved[place(x+2, y)]
			}
		}
		a = mixed
		a[0] ^= constant
	}
	return a
}

// rowBack: the row of which P3.1's third step makes the given one; its five bits are tried out.
func rowBack(want int) int {
	for row := range 32 {
		got := 0
		for x := range 5 {
			bit := func(k int) int { return row >> ((x + k) % 5) & 1 }
			got |= (bit(0) ^ (1-bit(1))&bit(2)) << x
		}
		if got == want {
			return row
		}
	}
	panic("no row is brought to this one")
}

func rowsBack(a state, back [32]int) state {
	var b state
	for y := range 5 {
		for bit := range 64 {
			row := 0
			for x := range 5 {
				row |= int(a[place(x, y)]>>bit&1) << x
			}
			for x := range 5 {
				b[place(x, y)] |= uint64(back[row]>>x&1) << bit
			}
		}
	}
	return b
}

// columnsBack: the first step is linear and of an order that divides 3 * 64, so doing it 191 times more undoes it.
func columnsBack(a state) state {
	for range 3*64 - 1 {
		c := columns(a)
		for i := range a {
			a[i] ^= c[(i+4)%5] ^ bits.RotateLeft64(c[(i+1)%5], 1)
		}
	}
	return a
}

// permuteBack: the one state that Permute may bring to a.
func permuteBack(a state) state {
	r, constants := turnsByWords(), constantsByWords()
	var back [32]int
	for row := range back {
		back[row] = rowBack(row)
	}
	for round := 23; round >= 0; round-- {
		a[0] ^= constants[round]
		b := rowsBack(a, back)
		for x := range 5 {
			for y := range 5 {
				a[place(x, y)] = bits.RotateLeft64(b[place(y, 2*x+3*y)], -r[place(x, y)])
			}
		}
		a = columnsBack(a)
	}
	return a
}

func drawnState(r *rand.Rand) state {
	var a state
	for i := range a {
		a[i] = []uint64{0, 1, math.MaxUint64, 1 << 63, 1 << r.Intn(64), r.Uint64(), r.Uint64()}[r.Intn(7)]
	}
	return a
}

func TestPermuteOfZeros(t *testing.T) {
	want := state{
		0xF1258F7940E1DDE7, 0x84D5CCF933C0478A, 0xD598261EA65AA9EE, 0xBD1547306F80494D, 0x8B284E056253D057,
		0xFF97A42D7F8E6FD4, 0x90FEE5A0A44647C4, 0x8C5BDA0CD6192E76, 0xAD30A6F71B19059C, 0x30935AB7D08FFC64,
		0xEB5AA93F2317D635, 0xA9A6E6260D712103, 0x81A57C16DBCF555F, 0x43B831CD0347C826, 0x01F22F1A11A5569F,
		0x05E5635A21D9AE61, 0x64BEFEF28CC970F2, 0x613670957BC46611, 0xB87C5A554FD00ECB, 0x8C3EE88A1CCF32C8,
		0x940C7922AE3A2614, 0x1841F924A2C509E4, 0x16F53526E70465C2, 0x75F644E97F30A13B, 0xEAF1FF7B5CECA249,
	}
	if got := keccak.Permute(state{}); got != want {
		t.Errorf("P3.1: of 25 zeros: %X", got)
	}
}

func TestPermuteByWords(t *testing.T) {
	list := []state{{}}
	for i := range 25 {
		var one, all state
		one[i], all[i] = 1, math.MaxUint64
		list = append(list, one, all)
	}
	r := rand.New(rand.NewSource(1))
	for range 2000 {
		list = append(list, drawnState(r))
	}
	for _, a := range list {
		handed := a
		if got, want := keccak.Permute(a), permuteByWords(a); got != want {
			t.Fatalf("P3.1: Permute(%X): %X, want %X", a, got, want)
		}
		if a != handed || keccak.Permute(a) != keccak.Permute(handed) {
			t.Fatalf("P3.1: Permute(%X) changed what it was handed, or answers otherwise when asked again", handed)
		}
	}
}

// sponged: SHA3-256, which is Permute with another byte behind the message.
func sponged(message []byte) [32]byte {
	b := append(append([]byte{}, message...), 0x06)
	for len(b)%136 != 0 {
		b = append(b, 0)
	}
	b[len(b)-1] |= 0x80
	var a state
	for ; len(b) > 0; b = b[136:] {
		for i := range 17 {
			a[i] ^= binary.LittleEndian.Uint64(b[8*i:])
		}
		a = keccak.Permute(a)
	}
	var h [32]byte
	for i := range 4 {
		binary.LittleEndian.PutUint64(h[8*i:], a[i])
	}
	return h
}

func TestPermuteAgainstSHA3(t *testing.T) {
	r := rand.New(rand.NewSource(2))
	for range 500 {
		b := make([]byte, r.Intn(600))
		r.Read(b)
		if got, want := sponged(b), sha3.Sum256(b); got != want {
			t.Fatalf("P3.1: SHA3-256 of %x: %x, want %x", b, got, want)
		}
	}
}

func TestPermuteGoesBack(t *testing.T) {
	r := rand.New(rand.NewSource(3))
	for range 60 {
		a := drawnState(r)
		if got := permuteBack(keccak.Permute(a)); got != a {
			t.Fatalf("P3.4: Permute(%X) is also brought about by %X", a, got)
		}
		if got := keccak.Permute(permuteBack(a)); got != a {
			t.Fatalf("P3.4: %X is met by nothing, but %X", a, got)
		}
	}
}

func TestPermuteOfUnlikeLanes(t *testing.T) {
	r := rand.New(rand.NewSource(4))
	from := map[state]state{}
	check := func(a state) {
		to := keccak.Permute(a)
		if before, met := from[to]; met && before != a {
			t.Fatalf("P3.4: Permute brings %X and %X to the same lanes", before, a)
		}
		from[to] = a
	}
	for range 3 {
		a := drawnState(r)
		check(a)
		for bit := range 25 * 64 {
			b := a
			b[bit/64] ^= 1 << (bit % 64)
			check(b)
		}
	}
	for range 5000 {
		check(drawnState(r))
	}
}
