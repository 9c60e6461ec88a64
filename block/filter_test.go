package block_test

import (
	"fmt"
	"hash/crc32"
	"math"
	"math/big"
	"math/rand"
	"slices"
	"strings"
	"testing"

	"moraine/api"
	"moraine/block"
)

// turnsByWords: the whole part of bits 69 / 100, at least 1 and at most 30.
func turnsByWords(bits int) int {
	k := int(math.Floor(float64(bits) * 69 / 100))
	switch {
	case k < 1:
		return 1
	case k > 30:
		return 30
	}
	return k
}

// bitsOf: the bits that stand for a key among m, reckoned with whole numbers of any size.
func bitsOf(key string, turns, m int) []int {
	first := int64(crc32.Checksum([]byte(key), crc32.MakeTable(crc32.Castagnoli)))
	all := new(big.Int).Lsh(big.NewInt(1), 32)
	h := big.NewInt(first)
	low := big.NewInt(first % (1 << 17))
	d := new(big.Int).Add(big.NewInt(first>>17), low.Lsh(low, 15))
	var l []int
	for range turns {
		l = append(l, int(new(big.Int).Mod(h, big.NewInt(int64(m))).Int64()))
		h.Mod(h.Add(h, d), all)
	}
	return l
}

// filterByWords: what P7.3 says.
func filterByWords(keys []string, bits int) (string, api.Errno) {
	if bits < 1 || bits > 64 {
		return "", api.ErrBlockPlan
	}
	size := 8
	for 8*size < bits*len(keys) {
		size++
	}
	set := map[int]int{}
	for _, key := range keys {
		for _, bit := range bitsOf(key, turnsByWords(bits), 8*size) {
			set[bit] = 1
		}
	}
	b := make([]byte, size)
	for i := range b {
		worth := 1
		for j := range 8 {
			b[i] += byte(set[8*i+j] * worth)
			worth *= 2
		}
	}
	return string(b) + string([]byte{byte(turnsByWords(bits))}), api.OK
}

// mayByWords: what P7.3 says.
func mayByWords(filter, key string) bool {
	if len(filter) < 9 {
		return true
	}
	m, turns := 8*(len(filter)-1), int(filter[len(filter)-1])
	if turns < 1 || turns > 30 {
		return true
	}
	for _, bit := range bitsOf(key, turns, m) {
		if filter[bit/8]&(1<<(bit%8)) == 0 {
			return false
		}
	}
	return true
}

func lists(keys []string) [][]byte {
	l := make([][]byte, 0, len(keys)+1)
	for _, key := range keys {
		l = append(l, roomy(key))
	}
	return l
}

// filter: that Filter does what the words say; its bytes.
func filter(t *testing.T, what string, keys []string, bits int) string {
	t.Helper()
	f, e := block.Filter(lists(keys), bits)
	want, g := filterByWords(keys, bits)
	if string(f) != want || e != g || e != api.OK && f != nil {
		t.Fatalf("P7.3: %s: %d keys, %d bits: %.200x, %d, want %.200x, %d", what, len(keys), bits, f, e, want, g)
	}
	return want
}

// may: that May does what the words say.
func may(t *testing.T, what string, f, key string) bool {
	t.Helper()
	got := block.May(roomy(f), roomy(key))
	if got != mayByWords(f, key) {
		t.Fatalf("P7.3: %s: May(%.200x, %x): %t", what, f, key, got)
	}
	return got
}

func names(n int) []string {
	var l []string
	for i := range n {
		l = append(l, fmt.Sprint("name", i))
	}
	return l
}

// TestFilterByHand: "123456789" has the sum E3069283; turned right by 17 bits it is 4941F183.
func TestFilterByHand(t *testing.T) {
	h, d := uint32(0xE3069283), uint32(0x4941F183)
	want := make([]byte, 8)
	for range 6 {
		want[h%64/8] |= 1 << (h % 8)
		h += d
	}
	f, e := block.Filter([][]byte{[]byte("123456789")}, 10)
	if string(f) != string(want)+"\x06" || e != api.OK {
		t.Errorf("P7.3: %x, %d, want %x06", f, e, want)
	}
	if !block.May(f, []byte("123456789")) {
		t.Errorf("P7.4: the only key is none of the filter's")
	}
}

// TestNoBytesAsAKey: the sum of no bytes is 0: one bit, whatever the turns.
func TestNoBytesAsAKey(t *testing.T) {
	for _, keys := range [][][]byte{{nil}, {{}}, {{}, nil}} {
		f, e := block.Filter(keys, 20)
		if string(f) != "\x01\x00\x00\x00\x00\x00\x00\x00\x0d" || e != api.OK {
			t.Errorf("P7.3: %x, %d", f, e)
		}
	}
	if !block.May([]byte("\x01\x00\x00\x00\x00\x00\x00\x00\x1e"), nil) || block.May([]byte("\xfe\xff\xff\xff\xff\xff\xff\xff\x01"), []byte{}) {
		t.Errorf("P7.3: May of no bytes")
	}
}

func TestBits(t *testing.T) {
	for _, bits := range []int{math.MinInt, -64, -1, 0, 65, 66, 100, math.MaxInt32, math.MaxInt} {
		for _, n := range []int{0, 1, 9} {
			if f, e := block.Filter(lists(names(n)), bits); f != nil || e != api.ErrBlockPlan {
				t.Errorf("P7.3: bits %d: %x, %d", bits, f, e)
			}
		}
	}
	for bits := 1; bits <= 64; bits++ {
		for _, n := range []int{0, 1, 2, 7, 8, 9, 63, 64, 65, 200} {
			filter(t, "each count of bits", names(n), bits)
		}
	}
	for _, c := range [][2]int{{1, 1}, {2, 1}, {3, 2}, {10, 6}, {43, 29}, {44, 30}, {45, 30}, {64, 30}} {
		f, _ := block.Filter(nil, c[0])
		if len(f) != 9 || int(f[8]) != c[1] {
			t.Errorf("P7.3: bits %d: %x", c[0], f)
		}
	}
}

// TestSizes: the fewest bytes, at least 8.
func TestSizes(t *testing.T) {
	for _, c := range []struct{ n, bits, want int }{
		{0, 64, 8}, {1, 63, 8}, {1, 64, 8}, {2, 32, 8}, {2, 33, 9}, {2, 36, 9}, {2, 37, 10}, {64, 1, 8}, {65, 1, 9}, {72, 1, 9}, {73, 1, 10}, {13, 5, 9}, {3, 64, 24}, {100, 10, 125},
	} {
		f, e := block.Filter(lists(names(c.n)), c.bits)
		if len(f) != c.want+1 || e != api.OK {
			t.Errorf("P7.3: %d keys, %d bits: %d bytes, %d", c.n, c.bits, len(f), e)
		}
	}
}

func TestFiltersOfTheSameKeys(t *testing.T) {
	r := rand.New(rand.NewSource(8))
	for _, n := range []int{1, 2, 3, 50, 400} {
		keys := names(n)
		for _, bits := range []int{1, 2, 10, 44, 64} {
			f := filter(t, "in order", keys, bits)
			other := slices.Clone(keys)
			r.Shuffle(n, func(i, j int) { other[i], other[j] = other[j], other[i] })
			if g, e := block.Filter(lists(other), bits); string(g) != f || e != api.OK {
				t.Errorf("P7.4: %d keys, %d bits: in another order they make another filter", n, bits)
			}
			slices.Reverse(keys)
			if g, e := block.Filter(lists(keys), bits); string(g) != f || e != api.OK {
				t.Errorf("P7.4: %d keys, %d bits: backwards they make another filter", n, bits)
			}
			slices.Reverse(keys)
			// Twice, they count twice.
			twice := filter(t, "twice", slices.Concat(keys, keys), bits)
			mixed := filter(t, "twice", slices.Concat(other, keys), bits)
			if twice != mixed || len(twice) != 1+max(8, (2*n*bits+7)/8) {
				t.Errorf("P7.4: %d keys twice, %d bits", n, bits)
			}
		}
	}
}

func TestMayOfTheKeys(t *testing.T) {
	for bits := 1; bits <= 64; bits++ {
		keys := names(40)
		f := filter(t, "its keys", keys, bits)
		for _, key := range keys {
			if !block.May([]byte(f), []byte(key)) {
				t.Errorf("P7.4: %d bits: %s is none of the keys", bits, key)
			}
		}
		for i := range 100 {
			may(t, "other keys", f, fmt.Sprint("other", i))
		}
	}
}

// TestFewAreTakenForKeys: a filter of 10 bits a key lets through about one of a hundred.
func TestFewAreTakenForKeys(t *testing.T) {
	f := filter(t, "many", names(2000), 10)
	n := 0
	for i := range 5000 {
		if block.May([]byte(f), []byte(fmt.Sprint("other", i))) {
			n++
		}
	}
	if n > 150 {
		t.Errorf("P7.3: %d of 5000 others are let through", n)
	}
}

func TestShortFilters(t *testing.T) {
	for n := range 9 {
		for _, x := range []string{"\x00", "\x01", "\x06", "\x1e", "\xff"} {
			if !may(t, "short", strings.Repeat(x, n), "key") {
				t.Errorf("P7.3: %d bytes: false", n)
			}
		}
	}
	if may(t, "nine bytes", "\x00\x00\x00\x00\x00\x00\x00\x00\x06", "key") {
		t.Errorf("P7.3: nine bytes: true")
	}
}

func TestLastBytes(t *testing.T) {
	for last := range 256 {
		end := string([]byte{byte(last)})
		for _, n := range []int{8, 9, 33} {
			refusing := may(t, "no bit set", strings.Repeat("\x00", n)+end, "key")
			if refusing != (last < 1 || last > 30) {
				t.Errorf("P7.3: last byte %d, no bit set: %t", last, refusing)
			}
			if !may(t, "all bits set", strings.Repeat("\xff", n)+end, "key") {
				t.Errorf("P7.3: last byte %d, all bits set: false", last)
			}
		}
	}
}

// TestEachBitCounts: with one of its bits away a key is none; with another away it is one.
func TestEachBitCounts(t *testing.T) {
	for _, key := range []string{"key", "", "other", key("user", 1, 1)} {
		for _, turns := range []int{1, 2, 6, 29, 30} {
			for _, n := range []int{8, 9, 17} {
				mine := bitsOf(key, turns, 8*n)
				for bit := range 8 * n {
					b := []byte(strings.Repeat("\xff", n) + string([]byte{byte(turns)}))
					b[bit/8] -= 1 << (bit % 8)
					if may(t, "a bit away", string(b), key) == slices.Contains(mine, bit) {
						t.Errorf("P7.3: %q, %d turns: bit %d of %d", key, turns, bit, 8*n)
					}
				}
			}
		}
	}
}

func TestDrawnFilters(t *testing.T) {
	r := rand.New(rand.NewSource(9))
	for range 1500 {
		var keys []string
		for range r.Intn(30) {
			keys = append(keys, drawnUser(r))
		}
		f := filter(t, "drawn", keys, r.Intn(68)-1)
		for range 10 {
			may(t, "drawn", f, drawnUser(r))
		}
		for _, key := range keys {
			if !may(t, "drawn", f, key) {
				t.Fatalf("P7.4: %x is none of the filter's keys", key)
			}
		}
		b := make([]byte, r.Intn(30))
		for i := range b {
			b[i] = []byte{0xFF, 0xFF, 0xFF, byte(1 + r.Intn(30)), byte(r.Intn(256))}[r.Intn(5)]
		}
		may(t, "drawn bytes", string(b), drawnUser(r))
	}
}
