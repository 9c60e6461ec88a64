package codec_test

import (
	"bytes"
	"encoding/binary"
	"math"
	"math/rand"
	"slices"
	"strings"
	"testing"

	"moraine/api"
	"moraine/codec"
)

type parts struct {
	user string
	seq  uint64
	kind int
}

func key(t *testing.T, p parts) []byte {
	t.Helper()
	k, e := codec.Key(roomy([]byte(p.user)), p.seq, p.kind)
	if e != api.OK {
		t.Fatalf("P2.5: Key(%x, %d, %d): %d", p.user, p.seq, p.kind, e)
	}
	return k
}

func drawnParts(r *rand.Rand) parts {
	most := []int{3, 3, 3, api.MaxKey}[r.Intn(4)]
	seq := []uint64{0, 1, 255, 256, api.MaxSeq, drawnNumber(r) & api.MaxSeq}[r.Intn(6)]
	return parts{string(drawn(r, most)), seq, r.Intn(2)}
}

func TestKey(t *testing.T) {
	full := string(bytes.Repeat([]byte{0xEE}, api.MaxKey))
	for _, c := range []struct {
		p    parts
		want string
	}{
		{parts{"", 1, api.Set}, "\x01\x01\x00\x00\x00\x00\x00\x00"},
		{parts{"", 0, api.Delete}, "\x00\x00\x00\x00\x00\x00\x00\x00"},
		{parts{"ab", 0x01020304050607, api.Delete}, "ab\x00\x07\x06\x05\x04\x03\x02\x01"},
		{parts{"ab", api.MaxSeq, api.Set}, "ab\x01\xff\xff\xff\xff\xff\xff\xff"},
		{parts{full, 256, api.Set}, full + "\x01\x00\x01\x00\x00\x00\x00\x00"},
	} {
		k := key(t, c.p)
		if string(k) != c.want {
			t.Errorf("P2.5: Key of %v: %x", c.p, k)
		}
		user, seq, kind, e := codec.Split(roomy(k))
		if got := (parts{string(user), seq, kind}); got != c.p || e != api.OK {
			t.Errorf("P2.5: Split(%x): %v, %d", k, got, e)
		}
	}
}

func TestNoKey(t *testing.T) {
	for _, c := range []struct {
		size int
		seq  uint64
		kind int
	}{
		{api.MaxKey + 1, 0, api.Set},
		{4096, 0, api.Delete},
		{0, api.MaxSeq + 1, api.Set},
		{3, math.MaxUint64, api.Delete},
		{0, 0, 2},
		{0, 0, -1},
		{3, 5, 256},
		{3, 5, math.MinInt},
		{3, 5, math.MaxInt},
	} {
		k, e := codec.Key(make([]byte, c.size), c.seq, c.kind)
		if len(k) != 0 || e != api.ErrCodecKey {
			t.Errorf("P2.5: Key of %v: %x, %d", c, k, e)
		}
	}
}

// noKeys: lists that are no internal keys.
func noKeys() [][]byte {
	long := make([]byte, api.MaxKey+9)
	return [][]byte{nil, {}, {1}, make([]byte, 7), long, make([]byte, 4096),
		{2, 0, 0, 0, 0, 0, 0, 0}, {0xFF, 1, 1, 1, 1, 1, 1, 1}, {0, 0x80, 0, 0, 0, 0, 0, 0, 0}, {'a', 3, 0, 0, 0, 0, 0, 0, 0}}
}

func TestSplitOfNoKey(t *testing.T) {
	for _, k := range noKeys() {
		user, seq, kind, e := codec.Split(roomy(k))
		if len(user) != 0 || seq != 0 || kind != 0 || e != api.ErrCodecKey {
			t.Errorf("P2.5: Split(%x): %x, %d, %d, %d", k, user, seq, kind, e)
		}
	}
}

func TestSplitOfKey(t *testing.T) {
	r := rand.New(rand.NewSource(7))
	for range 20000 {
		p := drawnParts(r)
		user, seq, kind, e := codec.Split(key(t, p))
		if got := (parts{string(user), seq, kind}); got != p || e != api.OK {
			t.Fatalf("P2.7: %v: %v, %d", p, got, e)
		}
		b := drawn(r, 140)
		user, seq, kind, e = codec.Split(b)
		valid := len(b) >= 8 && len(b) <= api.MaxKey+8 && b[len(b)-8] <= 1
		if valid != (e == api.OK) {
			t.Fatalf("P2.5: Split(%x): %d", b, e)
		}
		if valid && !bytes.Equal(key(t, parts{string(user), seq, kind}), b) {
			t.Fatalf("P2.7: another spelling: %x", b)
		}
	}
}

// standing: a text that stands among others as its key stands among keys: each byte of the user key behind a letter, an end ahead of that letter, then what is left to the greatest number.
func standing(p parts) string {
	var b []byte
	for _, x := range []byte(p.user) {
		b = append(b, 'b', x)
	}
	b = append(b, 'a')
	b = binary.BigEndian.AppendUint64(b, math.MaxUint64-p.seq)
	return string(append(b, byte(api.Set-p.kind)))
}

func compare(t *testing.T, a, b []byte) int {
	t.Helper()
	n, e := codec.Compare(roomy(a), roomy(b))
	if e != api.OK {
		t.Fatalf("P2.6: Compare(%x, %x): %d", a, b, e)
	}
	return n
}

func TestCompareInARow(t *testing.T) {
	row := []parts{
		{"", api.MaxSeq, 1}, {"", api.MaxSeq, 0}, {"", 3, 1}, {"", 3, 0}, {"", 0, 1}, {"", 0, 0},
		{"\x00", 1, 0}, {"\x00\x00", 9, 1}, {"\x01", 0, 0},
		{"a", 1 << 40, 0}, {"a", 256, 1}, {"a", 255, 1}, {"a", 255, 0}, {"a", 5, 1}, {"a", 4, 1}, {"a", 0, 0},
		{"a\x00", 9, 1}, {"ab", 9, 1}, {"ab", 2, 1}, {"b", 0, 0}, {"\x7f", 0, 0}, {"\x80", 7, 1}, {"\xff", 0, 0}, {"\xff\xff", 0, 0},
	}
	for i := range row {
		for j := range row {
			want := min(max(i-j, -1), 1)
			if got := compare(t, key(t, row[i]), key(t, row[j])); got != want {
				t.Errorf("P2.6: %v, %v: %d", row[i], row[j], got)
			}
		}
	}
}

func TestCompareOfNoKey(t *testing.T) {
	good := key(t, parts{"a", 1, api.Set})
	for _, k := range noKeys() {
		for _, pair := range [][2][]byte{{k, good}, {good, k}, {k, k}} {
			n, e := codec.Compare(pair[0], pair[1])
			if n != 0 || e != api.ErrCodecKey {
				t.Errorf("P2.6: Compare(%x, %x): %d, %d", pair[0], pair[1], n, e)
			}
		}
	}
}

func TestCompareIsAnOrder(t *testing.T) {
	r := rand.New(rand.NewSource(8))
	for range 100000 {
		p := [3]parts{drawnParts(r), drawnParts(r), drawnParts(r)}
		if r.Intn(2) == 0 {
			p[1].user, p[2].user = p[0].user, p[0].user
		}
		a, b, c := key(t, p[0]), key(t, p[1]), key(t, p[2])
		ab, ba, bc, ac := compare(t, a, b), compare(t, b, a), compare(t, b, c), compare(t, a, c)
		switch {
		case ab != strings.Compare(standing(p[0]), standing(p[1])):
			t.Fatalf("P2.6: %v, %v: %d", p[0], p[1], ab)
		case ab != -ba || (ab == 0) != bytes.Equal(a, b) || compare(t, a, a) != 0:
			t.Fatalf("P2.7: both ways: %v, %v: %d, %d", p[0], p[1], ab, ba)
		case ab <= 0 && bc <= 0 && ac > 0, ab >= 0 && bc >= 0 && ac < 0:
			t.Fatalf("P2.7: from one to another: %v: %d, %d, %d", p, ab, bc, ac)
		}
	}
}

// same: that what was handed in, and the room behind it, is what it was.
func same(t *testing.T, what string, b, before []byte) {
	t.Helper()
	if !bytes.Equal(b[:cap(b)], before) {
		t.Errorf("%s: changed to %x", what, b[:cap(b)])
	}
}

// spoilt writes over an answer and the room behind it.
func spoilt(b []byte) {
	for i := range b[:cap(b)] {
		b[:cap(b)][i] ^= 0x5A
	}
}

func TestMemory(t *testing.T) {
	body := roomy([]byte("some bytes of a body"))
	frame := roomy(framed(t, body))
	inner := roomy(key(t, parts{"user key", 77, api.Set}))
	before := [][]byte{slices.Clone(body[:cap(body)]), slices.Clone(frame[:cap(frame)]), slices.Clone(inner[:cap(inner)])}
	for range 2 {
		f, _ := codec.Frame(body)
		b, _, e := codec.Unframe(frame)
		u, _, _, g := codec.Split(inner)
		k, h := codec.Key(body, 5, api.Delete)
		if e != api.OK || g != api.OK || h != api.OK || string(b) != "some bytes of a body" || string(u) != "user key" || !bytes.Equal(f, frame) {
			t.Errorf("an answer was touched: %x, %x, %x", f, b, u)
		}
		for _, l := range [][]byte{f, b, u, k, codec.Put(1 << 40), codec.Fixed4(9), codec.Fixed8(9)} {
			spoilt(l)
		}
	}
	_, _ = codec.Compare(inner, inner)
	codec.Sum(body)
	same(t, "body", body, before[0])
	same(t, "frame", frame, before[1])
	same(t, "key", inner, before[2])
	if string(codec.Put(300)) != "\xac\x02" || string(codec.Fixed4(9)) != "\x09\x00\x00\x00" {
		t.Error("numbers share memory")
	}
}
