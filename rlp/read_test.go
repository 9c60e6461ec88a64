package rlp_test

import (
	"bytes"
	"math/big"
	"math/rand"
	"slices"
	"strings"
	"testing"

	"moraine/api"
	"moraine/rlp"
)

// refused: that neither First nor Decode takes b, for that reason, and that nothing is told beside it.
func refused(t *testing.T, what string, b []byte, want api.Errno) {
	t.Helper()
	x, n, e := rlp.First(roomy(b))
	y, f := rlp.Decode(roomy(b))
	if e != want || f != want {
		t.Errorf("P4.2: %s: %.20x: %d, %d, want %d", what, b, e, f, want)
	}
	if n != 0 || !alike(x, api.Item{}) || !alike(y, api.Item{}) {
		t.Errorf("P4.2: %s: %v, %d, %v beside an error", what, x, n, y)
	}
}

// reader goes through bytes by P4.2's words.
type reader struct{ ahead int }

// length: where the payload of the item at b's beginning begins, and how many bytes it has.
func (r *reader) length(b []byte) (int, int64, api.Errno) {
	k := 0
	switch first := int(b[0]); {
	case first < 128:
		return 0, 1, api.OK
	case first < 184:
		return 1, int64(first - 128), api.OK
	case first < 192:
		k = first - 183
	case first < 248:
		return 1, int64(first - 192), api.OK
	default:
		k = first - 247
	}
	if len(b) < 1+k {
		return 0, 0, api.ErrRlpShort
	}
	n := new(big.Int).SetBytes(b[1 : 1+k])
	if b[1] == 0 || n.Cmp(big.NewInt(56)) < 0 || n.Cmp(big.NewInt(1<<31)) > 0 {
		return 0, 0, api.ErrRlpForm
	}
	return 1 + k, n.Int64(), api.OK
}

func (r *reader) item(b []byte, depth int) (api.Item, int, api.Errno) {
	if len(b) == 0 {
		return api.Item{}, 0, api.ErrRlpShort
	}
	if depth > 16 || r.ahead >= 4096 {
		return api.Item{}, 0, api.ErrRlpDeep
	}
	r.ahead++
	start, n, e := r.length(b)
	if e != api.OK {
		return api.Item{}, 0, e
	}
	if int64(len(b)) < int64(start)+n {
		return api.Item{}, 0, api.ErrRlpShort
	}
	end := start + int(n)
	if b[0] < 192 {
		if start == 1 && n == 1 && b[1] < 128 {
			return api.Item{}, 0, api.ErrRlpForm
		}
		return api.Item{Bytes: b[start:end]}, end, api.OK
	}
	x := list()
	for payload := b[start:end]; len(payload) > 0; {
		y, n, e := r.item(payload, depth+1)
		if e != api.OK {
			return api.Item{}, 0, e
		}
		x.Items = append(x.Items, y)
		payload = payload[n:]
	}
	return x, end, api.OK
}

// firstByWords: what P4.2 says of First.
func firstByWords(b []byte) (api.Item, int, api.Errno) {
	if len(b) > 65536 {
		return api.Item{}, 0, api.ErrRlpLong
	}
	return new(reader).item(b, 1)
}

// heldToWords: that First and Decode tell of b what P4.2 says; which error it is.
func heldToWords(t *testing.T, b []byte) api.Errno {
	t.Helper()
	want, size, e := firstByWords(b)
	x, n, f := rlp.First(b)
	if !alike(x, want) || n != size || e != f {
		t.Fatalf("P4.2: First(%x): %v, %d, %d, want %v, %d, %d", b, x, n, f, want, size, e)
	}
	if e == api.OK && size < len(b) {
		want, e = api.Item{}, api.ErrRlpMore
	}
	x, f = rlp.Decode(b)
	if !alike(x, want) || e != f {
		t.Fatalf("P4.2: Decode(%x): %v, %d, want %v, %d", b, x, f, want, e)
	}
	return e
}

func TestRefused(t *testing.T) {
	for _, c := range []struct {
		b    string
		want api.Errno
	}{
		{"", api.ErrRlpShort}, {"81 05", api.ErrRlpForm}, {"B8 05 01 02 03 04 05", api.ErrRlpForm}, {"B8 05", api.ErrRlpForm}, {"83 64", api.ErrRlpShort}, {"C2 83 01", api.ErrRlpShort},
		{"81", api.ErrRlpShort}, {"B7", api.ErrRlpShort}, {"C1", api.ErrRlpShort}, {"F7 80", api.ErrRlpShort}, {"C3 80 80", api.ErrRlpShort},
		{"B8", api.ErrRlpShort}, {"B9 01", api.ErrRlpShort}, {"BF 01 01 01 01 01 01 01", api.ErrRlpShort}, {"F8", api.ErrRlpShort}, {"FF FF FF FF FF FF FF FF", api.ErrRlpShort},
		{"B8 00", api.ErrRlpForm}, {"B8 37", api.ErrRlpForm}, {"B8 38", api.ErrRlpShort}, {"F8 00", api.ErrRlpForm}, {"F8 37", api.ErrRlpForm}, {"F8 38", api.ErrRlpShort},
		{"B9 00 FF", api.ErrRlpForm}, {"B9 00 00", api.ErrRlpForm}, {"BA 00 01 00", api.ErrRlpForm}, {"F9 00 FF", api.ErrRlpForm}, {"FF 00 00 00 00 00 00 01 00", api.ErrRlpForm},
		{"B9 01 00", api.ErrRlpShort}, {"B9 FF FF", api.ErrRlpShort}, {"BA 01 00 00", api.ErrRlpShort}, {"F9 FF FF", api.ErrRlpShort}, {"FA 01 00 00", api.ErrRlpShort},
		{"BB 7F FF FF FF", api.ErrRlpShort}, {"BB 80 00 00 00", api.ErrRlpShort}, {"BB 80 00 00 01", api.ErrRlpForm}, {"BB FF FF FF FF", api.ErrRlpForm},
		{"FB 80 00 00 00", api.ErrRlpShort}, {"FB 80 00 00 01", api.ErrRlpForm}, {"BC 01 00 00 00 00", api.ErrRlpForm}, {"FC 01 00 00 00 38", api.ErrRlpForm},
		{"BF 80 00 00 00 00 00 00 00", api.ErrRlpForm}, {"BF FF FF FF FF FF FF FF FF", api.ErrRlpForm}, {"FF FF FF FF FF FF FF FF FF", api.ErrRlpForm}, {"FF FF FF FF FF FF FF FF 38", api.ErrRlpForm},
	} {
		refused(t, c.b, unhex(c.b), c.want)
		if c.b != "" {
			outer := unhex(c.b)
			refused(t, "in a list: "+c.b, append([]byte{0xC0 + byte(len(outer))}, outer...), c.want)
		}
	}
}

// TestEndOfAPayload: what stands behind a list's payload is none of its items', though there would be enough.
func TestEndOfAPayload(t *testing.T) {
	for _, c := range []struct {
		b    string
		want api.Errno
	}{
		{"C1 82 80 80", api.ErrRlpShort}, {"C1 81 80", api.ErrRlpShort}, {"C1 81 05", api.ErrRlpShort}, {"C1 C1 80", api.ErrRlpShort}, {"C2 80 81 80", api.ErrRlpShort},
		{"C1 B8 38" + strings.Repeat("A5", 60), api.ErrRlpShort}, {"C2 B9 01 00" + strings.Repeat("A5", 300), api.ErrRlpShort}, {"C2 B8 38" + strings.Repeat("A5", 60), api.ErrRlpShort},
		{"C1 B8 05 00", api.ErrRlpShort}, {"C2 C1 81 80", api.ErrRlpShort}, {"C3 C1 81 80", api.ErrRlpShort}, {"C3 C2 81 05", api.ErrRlpForm},
	} {
		refused(t, c.b, unhex(c.b), c.want)
	}
}

func TestMore(t *testing.T) {
	for _, c := range []struct {
		b string
		n int
	}{
		{"80 00", 1}, {"00 00", 1}, {"05 81 05", 1}, {"C0 C0", 1}, {"83 64 6F 67 FF", 4}, {"C2 80 80 80", 3}, {"81 80 B8", 2}, {"B8 38" + strings.Repeat("A5", 57), 58},
	} {
		b := unhex(c.b)
		x, e := rlp.Decode(b)
		if !alike(x, api.Item{}) || e != api.ErrRlpMore {
			t.Errorf("P4.2: Decode(%x): %v, %d", b, x, e)
		}
		y, n, e := rlp.First(b)
		z, f := rlp.Decode(roomy(b[:c.n]))
		if n != c.n || e != api.OK || f != api.OK || !alike(y, z) {
			t.Errorf("P4.2: First(%x): %v, %d, %d", b, y, n, e)
		}
	}
}

func TestBytesTooLong(t *testing.T) {
	whole := encoded(t, long(65533))
	x, n, e := rlp.First(whole)
	if !alike(x, long(65533)) || n != api.MaxRlp || e != api.OK {
		t.Errorf("P4.2: MaxRlp bytes: %d, %d", n, e)
	}
	refused(t, "MaxRlp + 1 bytes, a short item first", make([]byte, api.MaxRlp+1), api.ErrRlpLong)
	refused(t, "an item of MaxRlp bytes, and one more", append(bytes.Clone(whole), 0), api.ErrRlpLong)
	refused(t, "far too many bytes", make([]byte, 1<<22), api.ErrRlpLong)
	if x, n, e := rlp.First(make([]byte, api.MaxRlp)); !alike(x, text("\x00")) || n != 1 || e != api.OK {
		t.Errorf("P4.2: MaxRlp bytes, a short item first: %d, %d", n, e)
	}
	for _, n := range []int{65534, 65535, 65536} {
		for _, x := range []api.Item{long(n), filled(n, true)} {
			b := bytesByWords(x)
			refused(t, "an encoding that is too long", b, api.ErrRlpLong)
			refused(t, "as much of it as there may be", b[:api.MaxRlp], api.ErrRlpShort)
		}
	}
	refused(t, "no item, with too many bytes", append([]byte{0x81, 5}, make([]byte, api.MaxRlp)...), api.ErrRlpLong)
}

// inLists: b in n lists, one in another.
func inLists(n int, b []byte) []byte {
	for range n {
		b = payloadByWords(192, 247, b)
	}
	return b
}

func TestFirstFaultOfBytes(t *testing.T) {
	empty := bytes.Repeat([]byte{0x80}, 5000)
	listed := func(l ...[]byte) []byte { return payloadByWords(192, 247, slices.Concat(l...)) }
	wrong, cut := unhex("81 05"), unhex("83 64")
	for _, c := range []struct {
		what string
		b    []byte
		want api.Errno
	}{
		{"ends in a length that begins with 0", unhex("B9 00"), api.ErrRlpShort},
		{"a length that begins with 0, without its bytes", unhex("B9 00 38"), api.ErrRlpForm},
		{"a length above 2^31, without its bytes", unhex("BB 90 00 00 00"), api.ErrRlpForm},
		{"a list without its bytes, a fault in those that are there", unhex("C4 81 05"), api.ErrRlpShort},
		{"a long list without its bytes, a fault in those that are there", append(unhex("F8 38"), bytes.Repeat([]byte{0x81, 5}, 20)...), api.ErrRlpShort},
		{"wrong, then too short", listed(wrong, cut), api.ErrRlpForm},
		{"wrong in a list, then too short", listed(listed(wrong), cut), api.ErrRlpForm},
		{"too short in a list, then wrong", listed(listed(cut), wrong), api.ErrRlpShort},
		{"wrong, at the deepest place", inLists(15, wrong), api.ErrRlpForm},
		{"wrong, at a place too deep", inLists(16, wrong), api.ErrRlpDeep},
		{"too short, at the deepest place", inLists(15, cut), api.ErrRlpShort},
		{"too short, at a place too deep", inLists(16, cut), api.ErrRlpDeep},
		{"ends in a length, at a place too deep", inLists(16, unhex("B8")), api.ErrRlpDeep},
		{"wrong, then too deep", listed(wrong, inLists(16, nil)), api.ErrRlpForm},
		{"too deep, then wrong", listed(inLists(16, unhex("80")), wrong), api.ErrRlpDeep},
		{"wrong, the last that there may be", listed(empty[:4094], wrong), api.ErrRlpForm},
		{"wrong, one behind those that there may be", listed(empty[:4095], wrong), api.ErrRlpDeep},
		{"too short, the last that there may be", listed(empty[:4094], cut), api.ErrRlpShort},
		{"too short, one behind those that there may be", listed(empty[:4095], cut), api.ErrRlpDeep},
		{"wrong, then too many", listed(wrong, empty), api.ErrRlpForm},
		{"too many, and not the list's end", listed(empty)[:4200], api.ErrRlpShort},
	} {
		refused(t, c.what, c.b, c.want)
		if _, _, e := firstByWords(c.b); e != c.want {
			t.Errorf("by words: %s: %d", c.what, e)
		}
	}
	if _, e := rlp.Decode(append(inLists(1, wrong), 0)); e != api.ErrRlpForm {
		t.Errorf("P4.2: wrong, with a byte behind it: %d", e)
	}
	if _, e := rlp.Decode(append(inLists(16, nil), 0)); e != api.ErrRlpMore {
		t.Errorf("P4.2: a byte behind what is as deep as may be: %d", e)
	}
}

func TestShortBytes(t *testing.T) {
	heldToWords(t, nil)
	edges := unhex("00 01 05 37 38 7F 80 81 82 B7 B8 B9 BF C0 C1 C2 C3 F7 F8 F9 FF")
	for i := range 256 {
		heldToWords(t, []byte{byte(i)})
		for j := range 256 {
			heldToWords(t, []byte{byte(i), byte(j)})
			for _, x := range edges {
				heldToWords(t, []byte{byte(i), byte(j), x})
			}
		}
	}
}

// hurt: b with a byte changed, put in or taken away, or cut off, or with some behind it.
func hurt(r *rand.Rand, b []byte) []byte {
	at := r.Intn(len(b))
	if r.Intn(2) == 0 {
		at = min(at, r.Intn(4))
	}
	other := unhex("00 01 37 38 7F 80 81 B7 B8 B9 BF C0 C1 C2 F7 F8 F9 FF")
	x := other[r.Intn(len(other))]
	b = bytes.Clone(b)
	switch r.Intn(6) {
	case 0:
		b[at] = x
	case 1:
		b[at] += byte(1 + r.Intn(3))
	case 2:
		return slices.Insert(b, at, x)
	case 3:
		return slices.Delete(b, at, at+1)
	case 4:
		return b[:at]
	case 5:
		return append(b, drawnBytes(r)...)
	}
	return b
}

func TestDrawnBytes(t *testing.T) {
	r := rand.New(rand.NewSource(2))
	seen := map[api.Errno]int{}
	for range 60000 {
		b := bytesByWords(drawnItem(r, 5))
		if r.Intn(3) == 0 {
			b = bytesByWords(drawnChain(r))
		}
		for range r.Intn(4) {
			if len(b) > 0 {
				b = hurt(r, b)
			}
		}
		seen[heldToWords(t, roomy(b))]++
		seen[heldToWords(t, roomy(drawnBytes(r)))]++
	}
	for _, e := range []api.Errno{api.OK, api.ErrRlpForm, api.ErrRlpShort, api.ErrRlpMore, api.ErrRlpDeep} {
		if seen[e] < 1000 {
			t.Errorf("drawn: %v", seen)
		}
	}
}
