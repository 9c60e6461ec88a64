package rlp_test

import (
	"bytes"
	"encoding/hex"
	"math/big"
	"math/rand"
	"slices"
	"strings"
	"testing"

	"moraine/api"
	"moraine/rlp"
)

func text(s string) api.Item { return api.Item{Bytes: []byte(s)} }

func list(l ...api.Item) api.Item { return api.Item{List: true, Items: l} }

// long: a string of n bytes that need a head, whatever n is.
func long(n int) api.Item { return api.Item{Bytes: bytes.Repeat([]byte{0xA5}, n)} }

// many: a list of n empty strings.
func many(n int) api.Item { return api.Item{List: true, Items: make([]api.Item, n)} }

// nested: x in n lists, one in another.
func nested(n int, x api.Item) api.Item {
	for range n {
		x = list(x)
	}
	return x
}

func unhex(s string) []byte {
	b, err := hex.DecodeString(strings.ReplaceAll(s, " ", ""))
	if err != nil {
		panic(err)
	}
	return b
}

// roomy: b with other bytes in the room behind it.
func roomy(b []byte) []byte {
	c := append(bytes.Clone(b), 0x80, 0, 0xC1, 1, 0xFF, 0xB8, 3, 4, 5)
	return c[:len(b)]
}

func encoded(t *testing.T, x api.Item) []byte {
	t.Helper()
	b, e := rlp.Encode(x)
	if e != api.OK {
		t.Fatalf("P4.1: %.60v: %d", x, e)
	}
	return b
}

// untold: that x has no encoding, for that reason, and that nothing is told beside it.
func untold(t *testing.T, what string, x api.Item, want api.Errno) {
	t.Helper()
	b, e := rlp.Encode(x)
	if len(b) != 0 || e != want {
		t.Errorf("P4.1: %s: %d bytes, %d, want %d", what, len(b), e, want)
	}
}

// alike: whether two items are the same, field by field; a nil list and an empty one are.
func alike(x, y api.Item) bool {
	return x.List == y.List && bytes.Equal(x.Bytes, y.Bytes) && slices.EqualFunc(x.Items, y.Items, alike)
}

// lengthByWords: the fewest bytes that n has, the highest first.
func lengthByWords(n int) []byte { return big.NewInt(int64(n)).Bytes() }

// payloadByWords: a payload behind its head, by the two first bytes that P4.1 names for its kind.
func payloadByWords(few, more int, payload []byte) []byte {
	n := len(payload)
	if n <= 55 {
		return slices.Concat([]byte{byte(few + n)}, payload)
	}
	length := lengthByWords(n)
	return slices.Concat([]byte{byte(more + len(length))}, length, payload)
}

// bytesByWords: what P4.1 says of x's bytes.
func bytesByWords(x api.Item) []byte {
	if !x.List {
		if len(x.Bytes) == 1 && x.Bytes[0] < 128 {
			return []byte{x.Bytes[0]}
		}
		return payloadByWords(128, 183, x.Bytes)
	}
	var payload []byte
	for _, y := range x.Items {
		payload = append(payload, bytesByWords(y)...)
	}
	return payloadByWords(192, 247, payload)
}

// faultByWords: the first fault of P4.1 in x's items; ahead of x there are *ahead items.
func faultByWords(x api.Item, depth int, ahead *int) api.Errno {
	if depth > 16 || *ahead >= 4096 {
		return api.ErrRlpDeep
	}
	if !x.List && len(x.Items) != 0 || x.List && len(x.Bytes) != 0 {
		return api.ErrRlpForm
	}
	*ahead++
	for _, y := range x.Items {
		if e := faultByWords(y, depth+1, ahead); e != api.OK {
			return e
		}
	}
	return api.OK
}

// encodeByWords: what P4.1 says of x.
func encodeByWords(x api.Item) ([]byte, api.Errno) {
	if e := faultByWords(x, 1, new(int)); e != api.OK {
		return nil, e
	}
	b := bytesByWords(x)
	if len(b) > 65536 {
		return nil, api.ErrRlpLong
	}
	return b, api.OK
}

func TestExamples(t *testing.T) {
	for _, c := range []struct {
		x    api.Item
		want string
	}{
		{text("dog"), "83 64 6F 67"}, {list(), "C0"}, {text(""), "80"}, {text("\x0F"), "0F"}, {text("\x00"), "00"},
		{text("\x7F"), "7F"}, {text("\x80"), "81 80"}, {text("\xFF"), "81 FF"}, {text("\x04\x00"), "82 04 00"}, {text("\x00\x00"), "82 00 00"},
		{list(text("")), "C1 80"}, {list(text("\x05")), "C1 05"}, {list(list()), "C1 C0"}, {list(text("cat"), text("dog")), "C8 83 63 61 74 83 64 6F 67"},
		{list(list(), list(list()), list(list(), list(list()))), "C7 C0 C1 C0 C3 C0 C1 C0"},
		{api.Item{Bytes: []byte{}, Items: []api.Item{}}, "80"}, {api.Item{List: true, Bytes: []byte{}, Items: []api.Item{}}, "C0"},
	} {
		want := unhex(c.want)
		if b := encoded(t, c.x); !bytes.Equal(b, want) {
			t.Errorf("P4.1: %v: %x, want %x", c.x, b, want)
		}
		if x, e := rlp.Decode(want); !alike(x, c.x) || e != api.OK {
			t.Errorf("P4.2: %x: %v, %d", want, x, e)
		}
	}
}

func TestEachByte(t *testing.T) {
	for i := range 256 {
		x := api.Item{Bytes: []byte{byte(i)}}
		want := []byte{0x81, byte(i)}
		if i < 128 {
			want = want[1:]
		}
		if b := encoded(t, x); !bytes.Equal(b, want) {
			t.Errorf("P4.1: the byte %x: %x", i, b)
		}
		got, e := rlp.Decode([]byte{0x81, byte(i)})
		if i < 128 && (e != api.ErrRlpForm || !alike(got, api.Item{})) || i >= 128 && (e != api.OK || !alike(got, x)) {
			t.Errorf("P4.2: 81 %x: %v, %d", i, got, e)
		}
	}
}

// heads: of payloads at the edges.
var heads = []struct {
	n             int
	texts, listed string
}{
	{0, "80", "C0"}, {1, "81", "C1"}, {2, "82", "C2"}, {54, "B6", "F6"}, {55, "B7", "F7"}, {56, "B8 38", "F8 38"}, {57, "B8 39", "F8 39"},
	{255, "B8 FF", "F8 FF"}, {256, "B9 01 00", "F9 01 00"}, {257, "B9 01 01", "F9 01 01"}, {4095, "B9 0F FF", "F9 0F FF"}, {65533, "B9 FF FD", "F9 FF FD"},
}

// filled: a list with a payload of n bytes: of one string, or of as many items as there are bytes.
func filled(n int, single bool) api.Item {
	if !single {
		return many(n)
	}
	for size := max(n-4, 0); ; size++ {
		if x := long(size); len(bytesByWords(x)) == n {
			return list(x)
		}
	}
}

func TestPayloads(t *testing.T) {
	for _, c := range heads {
		x := long(c.n)
		want := append(unhex(c.texts), x.Bytes...)
		if b := encoded(t, x); !bytes.Equal(b, want) {
			t.Errorf("P4.1: a string of %d bytes: %.9x", c.n, b)
		}
		if y, e := rlp.Decode(want); !alike(x, y) || e != api.OK {
			t.Errorf("P4.2: a string of %d bytes: %d", c.n, e)
		}
		if c.n > 4095 {
			continue
		}
		want = append(unhex(c.listed), bytes.Repeat([]byte{0x80}, c.n)...)
		if b := encoded(t, many(c.n)); !bytes.Equal(b, want) {
			t.Errorf("P4.1: a list of %d empty strings: %.9x", c.n, b)
		}
		if y, e := rlp.Decode(want); !alike(many(c.n), y) || e != api.OK {
			t.Errorf("P4.2: a list of %d empty strings: %d", c.n, e)
		}
	}
}

func TestPayloadsOfOneString(t *testing.T) {
	for _, c := range heads {
		if c.n == 0 || c.n == 57 {
			continue // no string's encoding has so many bytes
		}
		x := filled(c.n, true)
		b := encoded(t, x)
		if !bytes.HasPrefix(b, unhex(c.listed)) || !bytes.Equal(b, bytesByWords(x)) {
			t.Errorf("P4.1: a list with a payload of %d bytes: %.9x", c.n, b)
		}
		if y, e := rlp.Decode(b); !alike(x, y) || e != api.OK {
			t.Errorf("P4.2: a list with a payload of %d bytes: %d", c.n, e)
		}
	}
}

func TestTooLong(t *testing.T) {
	for _, n := range []int{65534, 65535, 65536, 65537, 1 << 24} {
		untold(t, "a string that is too long", long(n), api.ErrRlpLong)
		untold(t, "a list that is too long", filled(n, true), api.ErrRlpLong)
	}
	if b := encoded(t, long(65533)); len(b) != api.MaxRlp {
		t.Errorf("P4.1: %d bytes", len(b))
	}
	if b := encoded(t, list(long(65530-1), text("a"))); len(b) != api.MaxRlp {
		t.Errorf("P4.1: %d bytes", len(b))
	}
	untold(t, "a list, one byte too long", list(long(65530-1), text("a"), text("b")), api.ErrRlpLong)
	untold(t, "a list in a list, too long by its head", list(list(long(65530))), api.ErrRlpLong)
	shared := many(api.MaxItems - 1)
	for i := range shared.Items {
		shared.Items[i] = long(0)
		shared.Items[i].Bytes = make([]byte, 16)
	}
	untold(t, "many strings, too long together", shared, api.ErrRlpLong)
	great := make([]byte, 1<<24)
	for i := range shared.Items {
		shared.Items[i].Bytes = great
	}
	untold(t, "many strings of the same bytes, far too long", shared, api.ErrRlpLong)
}

func TestDepth(t *testing.T) {
	for _, c := range []struct {
		lists int
		x     api.Item
		want  api.Errno
	}{
		{14, text("a"), api.OK}, {15, text("a"), api.OK}, {16, text("a"), api.ErrRlpDeep}, {17, text("a"), api.ErrRlpDeep},
		{14, list(), api.OK}, {15, list(), api.OK}, {16, list(), api.ErrRlpDeep}, {17, list(), api.ErrRlpDeep}, {300, list(), api.ErrRlpDeep},
		{14, list(text("a"), text("b")), api.OK}, {15, list(text("a"), text("b")), api.ErrRlpDeep}, {15, long(60), api.OK}, {16, long(60), api.ErrRlpDeep},
	} {
		x := nested(c.lists, c.x)
		want := bytesByWords(x)
		b, e := rlp.Encode(x)
		y, f := rlp.Decode(want)
		if e != c.want || f != c.want {
			t.Errorf("P4.1, P4.2: %d lists: %d, %d, want %d", c.lists, e, f, c.want)
		}
		if c.want == api.OK && (!bytes.Equal(b, want) || !alike(x, y)) {
			t.Errorf("P4.1, P4.2: %d lists: %x, %v", c.lists, b, y)
		}
	}
	beside := list(nested(14, text("a")), text("b"), nested(14, list()), nested(3, text("c")))
	if x, e := rlp.Decode(encoded(t, beside)); !alike(x, beside) || e != api.OK {
		t.Errorf("P4.4: deep ones beside each other: %d", e)
	}
}

// itself: a list that has itself among its items.
func itself(n int) api.Item {
	x := many(n)
	x.Items[n-1] = x
	return x
}

func TestNoEnd(t *testing.T) {
	untold(t, "a list in itself", itself(1), api.ErrRlpDeep)
	untold(t, "a list in itself, behind others", itself(100), api.ErrRlpDeep)
	wide := many(64)
	for range 14 {
		next := many(64)
		for i := range next.Items {
			next.Items[i] = wide
		}
		wide = next
	}
	untold(t, "lists of lists, 64 each", wide, api.ErrRlpDeep)
}

func TestItems(t *testing.T) {
	halves := func(n int) api.Item { return list(many(n), many(n), text("")) }
	for _, c := range []struct {
		what string
		x    api.Item
		want api.Errno
	}{
		{"MaxItems in one list", many(4095), api.OK},
		{"one more in one list", many(4096), api.ErrRlpDeep},
		{"far more in one list", many(60000), api.ErrRlpDeep},
		{"MaxItems in two lists", halves(2046), api.OK},
		{"one more behind two lists", list(many(2046), many(2046), text(""), text("")), api.ErrRlpDeep},
		{"one more in the second list", list(many(2046), many(2047), text("")), api.ErrRlpDeep},
		{"MaxItems, lists in a list", list(slices.Repeat([]api.Item{list()}, 4095)...), api.OK},
		{"one more, lists in a list", list(slices.Repeat([]api.Item{list()}, 4096)...), api.ErrRlpDeep},
		{"MaxItems, one list in another", list(many(4094)), api.OK},
		{"one more, one list in another", list(many(4095)), api.ErrRlpDeep},
	} {
		want := bytesByWords(c.x)
		b, e := rlp.Encode(c.x)
		x, f := rlp.Decode(want)
		if e != c.want || f != c.want {
			t.Errorf("P4.1, P4.2: %s: %d, %d, want %d", c.what, e, f, c.want)
		}
		if c.want == api.OK && (!bytes.Equal(b, want) || !alike(x, c.x)) {
			t.Errorf("P4.1, P4.2: %s: another one", c.what)
		}
		if c.want != api.OK && (len(b) != 0 || !alike(x, api.Item{})) {
			t.Errorf("P4.1, P4.2: %s: something beside an error", c.what)
		}
	}
}

// both: an item that is a string and a list.
func both(isList bool) api.Item {
	return api.Item{List: isList, Bytes: []byte{1}, Items: []api.Item{{}}}
}

func TestNoItem(t *testing.T) {
	untold(t, "a string with an item", api.Item{Items: []api.Item{{}}}, api.ErrRlpForm)
	untold(t, "a string with bytes and an item", both(false), api.ErrRlpForm)
	untold(t, "a list with a byte", api.Item{List: true, Bytes: []byte{0}}, api.ErrRlpForm)
	untold(t, "a list with a byte and an item", both(true), api.ErrRlpForm)
	untold(t, "in a list", list(text("a"), list(text("b"), both(false))), api.ErrRlpForm)
	untold(t, "in a list, at the deepest place", nested(15, both(true)), api.ErrRlpForm)
}

func TestFirstFaultOfAnItem(t *testing.T) {
	deep := nested(16, list())
	last := many(4095)
	last.Items[4094] = both(false)
	behind := many(4096)
	behind.Items[4095] = both(true)
	early := many(5000)
	early.Items[17] = both(false)
	for _, c := range []struct {
		what string
		x    api.Item
		want api.Errno
	}{
		{"no item, then too deep", list(both(false), deep), api.ErrRlpForm},
		{"too deep, then no item", list(deep, both(false)), api.ErrRlpDeep},
		{"a list with bytes, too deep what is in it", api.Item{List: true, Bytes: []byte{1}, Items: []api.Item{deep}}, api.ErrRlpForm},
		{"a string with items, too deep what is in it", api.Item{Items: []api.Item{deep}}, api.ErrRlpForm},
		{"a string with too many items", api.Item{Items: make([]api.Item, 5000)}, api.ErrRlpForm},
		{"a list with a byte and too many items", api.Item{List: true, Bytes: []byte{1}, Items: make([]api.Item, 5000)}, api.ErrRlpForm},
		{"no item, at a place too deep", nested(16, both(false)), api.ErrRlpDeep},
		{"no item, in one that is too deep", nested(16, list(both(false))), api.ErrRlpDeep},
		{"no item, the last that there may be", last, api.ErrRlpForm},
		{"no item, one behind those that there may be", behind, api.ErrRlpDeep},
		{"no item, then too many", early, api.ErrRlpForm},
		{"too long, then no item", list(long(70000), both(true)), api.ErrRlpForm},
		{"no item, that is too long", api.Item{List: true, Bytes: make([]byte, 70000)}, api.ErrRlpForm},
		{"too long, then too deep", list(long(70000), deep), api.ErrRlpDeep},
		{"too long, then too many", list(long(70000), many(4095)), api.ErrRlpDeep},
		{"too long, then nothing else", list(long(70000), many(4093)), api.ErrRlpLong},
		{"too deep, then too many", list(deep, many(5000)), api.ErrRlpDeep},
	} {
		untold(t, c.what, c.x, c.want)
		if _, e := encodeByWords(c.x); e != c.want {
			t.Errorf("by words: %s: %d", c.what, e)
		}
	}
}

// drawnBytes: often few, often at an edge.
func drawnBytes(r *rand.Rand) []byte {
	n := []int{0, 1, 1, 2, r.Intn(9), 31 + r.Intn(3), 54 + r.Intn(4), 254 + r.Intn(4)}[r.Intn(8)]
	b := make([]byte, n)
	for i := range b {
		b[i] = []byte{0, 1, 0x7F, 0x80, 0x81, 0xB8, 0xC0, 0xC1, 0xF8, 0xFF, byte(r.Intn(256))}[r.Intn(11)]
	}
	return b
}

// drawnItem: lists one in another, at most so many.
func drawnItem(r *rand.Rand, deep int) api.Item {
	if deep == 0 || r.Intn(3) == 0 {
		return api.Item{Bytes: drawnBytes(r)}
	}
	x := list()
	for range []int{0, 1, 1, 2, r.Intn(5), r.Intn(20)}[r.Intn(6)] {
		x.Items = append(x.Items, drawnItem(r, r.Intn(deep)))
	}
	return x
}

// drawnChain: some lists one in another, about as deep as they may be.
func drawnChain(r *rand.Rand) api.Item {
	x := drawnItem(r, 2)
	for range 11 + r.Intn(6) {
		x = list(x)
		if r.Intn(3) == 0 {
			x.Items = slices.Insert(x.Items, r.Intn(2), drawnItem(r, 1))
		}
	}
	return x
}

// marred: x with a fault somewhere, perhaps: a field that isn't its kind's.
func marred(r *rand.Rand, x api.Item) api.Item {
	if !x.List || len(x.Items) == 0 || r.Intn(4) == 0 {
		x.List = !x.List
		return x
	}
	x.Items = slices.Clone(x.Items)
	i := r.Intn(len(x.Items))
	x.Items[i] = marred(r, x.Items[i])
	return x
}

func TestDrawnItems(t *testing.T) {
	r := rand.New(rand.NewSource(1))
	seen := map[api.Errno]int{}
	for range 30000 {
		x := drawnItem(r, 5)
		if r.Intn(3) == 0 {
			x = drawnChain(r)
		}
		for range r.Intn(3) {
			x = marred(r, x)
		}
		b, e := rlp.Encode(x)
		want, f := encodeByWords(x)
		if !bytes.Equal(b, want) || e != f {
			t.Fatalf("P4.1: %v: %x, %d, want %x, %d", x, b, e, want, f)
		}
		seen[e]++
	}
	if seen[api.OK] < 5000 || seen[api.ErrRlpForm] < 5000 || seen[api.ErrRlpDeep] < 1000 {
		t.Errorf("drawn: %v", seen)
	}
}
