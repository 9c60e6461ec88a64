package keccak

import "math/bits"

const (
	side  = 5           // lanes of a row, and of a column
	lanes = side * side // of a state
)

// constants: what each round's first lane is xored with.
var constants = [24]uint64{
	0x0000000000000001, 0x0000000000008082, 0x800000000000808A, 0x8000000080008000,
	0x000000000000808B, 0x0000000080000001, 0x8000000080008081, 0x8000000000008009,
	0x000000000000008A, 0x0000000000000088, 0x0000000080008009, 0x000000008000000A,
	0x000000008000808B, 0x800000000000008B, 0x8000000000008089, 0x8000000000008003,
	0x8000000000008002, 0x8000000000000080, 0x000000000000800A, 0x800000008000000A,
	0x8000000080008081, 0x8000000000008080, 0x0000000080000001, 0x8000000080008008,
}

// walk: from the lane (1, 0) on, each lane's next place, which is also where it comes to; the last one is (1, 0) again. The lane (0, 0) stays.
var walk = [lanes - 1]uint8{10, 7, 11, 17, 18, 3, 5, 16, 8, 21, 24, 4, 15, 23, 19, 13, 12, 2, 20, 14, 22, 9, 6, 1}

// turns: by how many bits the lanes of the walk are turned, the lane (1, 0) first.
var turns = [lanes - 1]uint8{1, 3, 6, 10, 15, 21, 28, 36, 45, 55, 2, 14, 27, 41, 56, 8, 25, 43, 62, 18, 39, 61, 20, 44}

// Permute tells the state behind 24 rounds. Unlike states stay unlike.
func Permute(a [25]uint64) [25]uint64 {
	for round := range len(constants) {
		a = mixRows(moveLanes(mixColumns(a)))
		a[0] ^= constants[round]
	}
	return a
}

// mixColumns xors each lane with the columns at both of its sides.
func mixColumns(a [lanes]uint64) [lanes]uint64 {
	var columns [side]uint64
	for x := range side {
		columns[x] = a[x] ^ a[x+5] ^ a[x+10] ^ a[x+15] ^ a[x+20]
	}
	for x := range side {
		both := columns[(x+4)%side] ^ bits.RotateLeft64(columns[(x+1)%side], 1)
		for place := x; place < lanes; place += side {
			a[place] ^= both
		}
	}
	return a
}

// moveLanes turns each lane and brings it to its place.
func moveLanes(a [lanes]uint64) [lanes]uint64 {
	carried := a[1]
	for t, place := range walk {
		turned := bits.RotateLeft64(carried, int(turns[t]))
		carried, a[place] = a[place], turned
	}
	return a
}

// mixRows xors each lane with what the two behind it in its row say.
func mixRows(a [lanes]uint64) [lanes]uint64 {
	for y := 0; y < lanes; y += side {
		one, two, three, four, five := a[y], a[y+1], a[y+2], a[y+3], a[y+4]
		a[y] = one ^ ^two&three
		a[y+1] = two ^ ^three&four
		a[y+2] = three ^ ^four&five
		a[y+3] = four ^ ^five&one
		a[y+4] = five ^ ^one&two
	}
	return a
}
