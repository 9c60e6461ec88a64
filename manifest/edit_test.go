package manifest_test

import (
	"encoding/hex"
	"math"
	"math/rand"
	"slices"
	"strings"
	"testing"

	"moraine/api"
	"moraine/manifest"
)

// full: an edit with some of everything.
func full() api.Edit {
	return api.Edit{
		Log: 300, Next: most, Seq: api.MaxSeq,
		Drop: []api.Gone{{Level: 4, Number: most}, {Level: 0, Number: 0}, {Level: 4, Number: most}},
		Add:  []api.Placed{placed(1, file(7, "a", "b")), placed(0, file(200, "", "")), placed(1, file(7, "a", strings.Repeat("b", 128)))},
	}
}

func TestExamples(t *testing.T) {
	b, wrong := manifest.Encode(api.Edit{Log: 1, Next: 2})
	if string(b) != "\x01\x02\x00\x00\x00" || wrong != api.OK {
		t.Errorf("P9.1: %x, %d", b, wrong)
	}
	e, wrong := manifest.Decode([]byte{1, 2, 0, 0, 0})
	if !same(e, api.Edit{Log: 1, Next: 2}) || wrong != api.OK {
		t.Errorf("P9.1: %v, %d", e, wrong)
	}
	v, wrong := manifest.Apply(api.Version{}, api.Edit{Next: 5, Add: []api.Placed{placed(0, file(5, "a", "b"))}})
	if !same(v, api.Version{}) || wrong != api.ErrManifestBack {
		t.Errorf("P9.3: adding table 5 with Next 5: %v, %d", v, wrong)
	}
	v, wrong = manifest.Apply(api.Version{}, api.Edit{Next: 5, Drop: []api.Gone{{}}})
	if !same(v, api.Version{}) || wrong != api.ErrManifestNone {
		t.Errorf("P9.3: dropping what isn't there: %v, %d", v, wrong)
	}
}

func TestAnEditByHand(t *testing.T) {
	e := api.Edit{
		Log: 0, Next: 128, Seq: 300,
		Drop: []api.Gone{{Level: 1, Number: 129}},
		Add:  []api.Placed{placed(2, api.File{Number: 3, Size: 1000, Least: key("a", 2, api.Set), Most: key("bc", 1, api.Delete)})},
	}
	want := "00" + "8001" + "ac02" + "01" + "01" + "8101" + "01" + "02" + "03" + "e807" + "09" + "610102000000000000" + "0a" + "62630001000000000000"
	if b, _ := encoded(t, "by hand", e); hex.EncodeToString([]byte(b)) != want {
		t.Errorf("P9.1: %x", b)
	}
}

// numbers: those of an edit that has a table, a drop, and their bounds.
func numbers() []struct {
	what string
	put  func(e *api.Edit, n int)
	most int
	at   int // which of the edit's parts it is
} {
	return []struct {
		what string
		put  func(e *api.Edit, n int)
		most int
		at   int
	}{
		{"Log", func(e *api.Edit, n int) { e.Log = n }, most, 0},
		{"Next", func(e *api.Edit, n int) { e.Next = n }, most, 1},
		{"Drop's level", func(e *api.Edit, n int) { e.Drop[0].Level = n }, 4, 4},
		{"Drop's number", func(e *api.Edit, n int) { e.Drop[0].Number = n }, most, 5},
		{"Add's level", func(e *api.Edit, n int) { e.Add[0].Level = n }, 4, 7},
		{"a table's number", func(e *api.Edit, n int) { e.Add[0].File.Number = n }, most, 8},
		{"a table's size", func(e *api.Edit, n int) { e.Add[0].File.Size = n }, most, 9},
	}
}

func one() api.Edit {
	return api.Edit{Log: 1, Next: 9, Seq: 1, Drop: []api.Gone{{Level: 2, Number: 3}}, Add: []api.Placed{placed(1, file(4, "a", "b"))}}
}

func TestNumbersOfEdits(t *testing.T) {
	for _, c := range numbers() {
		for _, n := range []int{math.MinInt, math.MinInt32, -1, 0, 1, c.most - 1, c.most, c.most + 1, 1 << 32, 1<<32 + 1, math.MaxInt} {
			e := one()
			c.put(&e, n)
			want := api.OK
			if n < 0 || n > c.most {
				want = api.ErrManifestForm
			}
			if _, wrong := encoded(t, c.what, e); wrong != want {
				t.Errorf("P9.1: Encode, %s %d: %d", c.what, n, wrong)
			}
			if _, wrong := decoded(t, c.what, joined(partsOf(e))); wrong != want {
				t.Errorf("P9.1: Decode, %s %d: %d", c.what, n, wrong)
			}
			if _, wrong := manifest.Apply(api.Version{}, e); want != api.OK && wrong != want {
				t.Errorf("P9.3: Apply, %s %d: %d", c.what, n, wrong)
			}
		}
	}
	for _, seq := range []uint64{0, 1, most, most + 1, api.MaxSeq - 1, api.MaxSeq, api.MaxSeq + 1, 1 << 63, math.MaxUint64} {
		e := one()
		e.Seq = seq
		want := api.OK
		if seq > api.MaxSeq {
			want = api.ErrManifestForm
		}
		if _, wrong := encoded(t, "Seq", e); wrong != want {
			t.Errorf("P9.1: Encode, Seq %d: %d", seq, wrong)
		}
		if _, wrong := decoded(t, "Seq", joined(partsOf(e))); wrong != want {
			t.Errorf("P9.1: Decode, Seq %d: %d", seq, wrong)
		}
	}
}

// TestAnyPlace: what may not be is seen wherever it stands.
func TestAnyPlace(t *testing.T) {
	for i := range 4 {
		e := api.Edit{Next: 9}
		for k := range 4 {
			e.Drop = append(e.Drop, api.Gone{Level: k, Number: k})
			e.Add = append(e.Add, placed(k, file(k, "a", "b")))
		}
		if _, wrong := encoded(t, "any place", e); wrong != api.OK {
			t.Fatalf("P9.1: %d", wrong)
		}
		for _, hurt := range []func(x *api.Edit){
			func(x *api.Edit) { x.Drop[i].Level = 5 },
			func(x *api.Edit) { x.Drop[i].Number = -1 },
			func(x *api.Edit) { x.Add[i].Level = 5 },
			func(x *api.Edit) { x.Add[i].File.Size = -1 },
			func(x *api.Edit) { x.Add[i].File.Least = nil },
		} {
			x := e
			x.Drop, x.Add = slices.Clone(e.Drop), slices.Clone(e.Add)
			hurt(&x)
			if _, wrong := encoded(t, "any place", x); wrong != api.ErrManifestForm {
				t.Errorf("P9.1: %v: %d", x, wrong)
			}
		}
	}
}

// tables: keys of tables, and whether one may be with them.
func tables() []struct {
	what        string
	least, most []byte
	want        bool
} {
	long := strings.Repeat("k", 128)
	a5 := key("a", 5, api.Set)
	return []struct {
		what        string
		least, most []byte
		want        bool
	}{
		{"the same key", a5, a5, true},
		{"an older one of the user key", a5, key("a", 4, api.Set), true},
		{"a newer one of the user key", a5, key("a", 6, api.Set), false},
		{"Set, then Delete", a5, key("a", 5, api.Delete), true},
		{"Delete, then Set", key("a", 5, api.Delete), a5, false},
		{"another user key", a5, key("b", 9, api.Set), true},
		{"another user key, the other way", key("b", 1, api.Set), a5, false},
		{"a user key that begins like it", a5, key("aa", 9, api.Set), true},
		{"a user key that it begins like", key("aa", 9, api.Set), a5, false},
		{"no user key", key("", 1, api.Set), key("", 0, api.Delete), true},
		{"the longest user keys", key(long, 1, api.Set), key(long, 1, api.Set), true},
		{"bytes as numbers", key("\x7f", 1, api.Set), key("\x80", 1, api.Set), true},
		{"the greatest moment", key("a", api.MaxSeq, api.Set), key("a", 0, api.Delete), true},
		{"Least without bytes", nil, a5, false},
		{"Most without bytes", a5, nil, false},
		{"neither has bytes", nil, nil, false},
		{"Least of 7 bytes", a5[2:], a5, false},
		{"Most of 7 bytes", a5, a5[2:], false},
		{"Least too long", key(long+"k", 1, api.Set), key("z", 1, api.Set), false},
		{"Most too long", a5, key(long+"k", 1, api.Set), false},
		{"Least of no kind", key("a", 5, 2), key("b", 5, api.Set), false},
		{"Most of no kind", a5, key("b", 5, 2), false},
		{"both of no kind", key("a", 5, 255), key("a", 5, 255), false},
	}
}

func TestTablesThatMayBe(t *testing.T) {
	for _, c := range tables() {
		f := api.File{Number: 3, Size: 1, Least: c.least, Most: c.most}
		want := api.ErrManifestForm
		if c.want {
			want = api.OK
		}
		e := api.Edit{Next: 9, Add: []api.Placed{placed(1, f)}}
		if _, wrong := encoded(t, c.what, e); wrong != want {
			t.Errorf("P9.1: Encode: %s: %d", c.what, wrong)
		}
		if _, wrong := decoded(t, c.what, joined(partsOf(e))); wrong != want {
			t.Errorf("P9.1: Decode: %s: %d", c.what, wrong)
		}
		if _, wrong := applied(t, c.what, api.Version{}, e); wrong != want {
			t.Errorf("P9.3: Apply: %s: %d", c.what, wrong)
		}
		for level := range 5 {
			v := api.Version{Next: 9}
			v.Levels[level] = []api.File{f}
			if wrong := checked(t, c.what, v); wrong != want {
				t.Errorf("P9.2: Check: %s: %d", c.what, wrong)
			}
		}
	}
}

func TestBeginningsAndMore(t *testing.T) {
	for _, e := range []api.Edit{{}, {Log: 300, Seq: 1 << 40}, one(), full()} {
		b, _ := encoded(t, "whole", e)
		for n := range len(b) {
			undecoded(t, "a beginning", b[:n])
		}
		for _, more := range []string{"\x00", "\x01", "\x80", "\x00\x00", b} {
			undecoded(t, "more behind", b+more)
		}
	}
	undecoded(t, "no bytes", "")
	if _, wrong := manifest.Decode(nil); wrong != api.ErrManifestForm {
		t.Errorf("P9.1: nil: %d", wrong)
	}
}

// TestOtherNumbers: each number of an edit's bytes in a longer spelling, or another one.
func TestOtherNumbers(t *testing.T) {
	for _, e := range []api.Edit{{}, one(), full()} {
		parts := partsOf(e)
		for i, p := range parts {
			if p.isKey {
				continue
			}
			with := func(bytes string) string {
				other := slices.Clone(parts)
				other[i].bytes = bytes
				return joined(other)
			}
			n := len(p.bytes) - 1
			longer := p.bytes[:n] + string([]byte{p.bytes[n] | 0x80})
			for _, tail := range []string{"\x00", "\x80\x00", "\x80\x80\x80\x00"} {
				undecoded(t, "longer", with(longer+tail))
			}
			undecoded(t, "eleven bytes", with(strings.Repeat("\x81", 10)+"\x01"))
			undecoded(t, "the tenth above 1", with(strings.Repeat("\x81", 9)+"\x02"))
			undecoded(t, "none", with(""))
			for _, other := range []uint64{0, 1, 4, 5, 8, 136, 137, most, most + 1, 1 << 32, 1<<32 + 1, 1 << 62, 1 << 63, 1<<63 + 1, math.MaxUint64} {
				decoded(t, "another number", with(number(other)))
			}
		}
	}
}

// TestTooGreat: numbers that are too great for what they stand for, each alone.
func TestTooGreat(t *testing.T) {
	for _, c := range numbers() {
		parts := partsOf(one())
		for _, n := range []uint64{uint64(c.most) + 1, 1 << 32, 1<<32 + 1, 1<<63 - 1, 1 << 63, math.MaxUint64} {
			parts[c.at].bytes = number(n)
			undecoded(t, c.what, joined(parts))
		}
		parts[c.at].bytes = number(uint64(c.most))
		if _, wrong := decoded(t, c.what, joined(parts)); wrong != api.OK {
			t.Errorf("P9.1: %s %d: %d", c.what, c.most, wrong)
		}
	}
}

// TestTooMany: counts and lengths that are greater than what is left, and that call for more memory than there is.
func TestTooMany(t *testing.T) {
	head := "\x01\x09\x01"
	a := string(key("a", 1, api.Set))
	for _, n := range []uint64{1, 2, 3, 100, 1 << 20, most, most + 1, 1 << 32, 1 << 40, 1<<63 - 1, 1 << 63, math.MaxUint64} {
		undecoded(t, "drops", head+number(n))
		undecoded(t, "drops", head+number(n)+"\x00")
		undecoded(t, "tables", head+"\x00"+number(n))
		undecoded(t, "tables", head+"\x00"+number(n)+"\x00\x00\x00")
		undecoded(t, "drops, one there", head+number(n+1)+"\x00\x00")
		undecoded(t, "tables, one there", head+"\x00"+number(n+1)+"\x00\x00\x00\x09"+a+"\x09"+a)
		undecoded(t, "Least", head+"\x00\x01\x00\x00\x00"+number(n+9)+a+"\x09"+a)
		undecoded(t, "Most", head+"\x00\x01\x00\x00\x00\x09"+a+number(n+9)+a)
		undecoded(t, "Least, nothing behind", head+"\x00\x01\x00\x00\x00"+number(n))
		undecoded(t, "Most, nothing behind", head+"\x00\x01\x00\x00\x00\x09"+a+number(n))
	}
	if _, wrong := decoded(t, "just as many", head+"\x00\x01\x00\x00\x00\x09"+a+"\x09"+a); wrong != api.OK {
		t.Errorf("P9.1: %d", wrong)
	}
	if _, wrong := decoded(t, "just as many", head+"\x02\x00\x00\x00\x00\x00"); wrong != api.OK {
		t.Errorf("P9.1: %d", wrong)
	}
}

// TestManyOfThem: counts that have some bytes.
func TestManyOfThem(t *testing.T) {
	for _, n := range []int{127, 128, 129, 16383, 16384} {
		e := api.Edit{Next: n}
		for i := range n {
			e.Drop = append(e.Drop, api.Gone{Level: i % 5, Number: i})
			e.Add = append(e.Add, placed(i%5, file(i, "a", "b")))
		}
		encoded(t, "many", e)
	}
}

// TestWhateverIsDropped: an edit may drop and add what no version has; Encode doesn't look at versions.
func TestWhateverIsDropped(t *testing.T) {
	f := file(20, "a", "b")
	e := api.Edit{Next: 5, Drop: []api.Gone{{Level: 1, Number: 20}, {Level: 1, Number: 20}}, Add: []api.Placed{placed(1, f), placed(1, f)}}
	if _, wrong := encoded(t, "whatever", e); wrong != api.OK {
		t.Errorf("P9.1: %d", wrong)
	}
}

func TestDrawnEdits(t *testing.T) {
	r := rand.New(rand.NewSource(1))
	for range 3000 {
		e := drawnGood(r, drawnVersion(r))
		encoded(t, "drawn", e)
		for range r.Intn(3) {
			e = hurtEdit(r, e)
		}
		encoded(t, "hurt", e)
	}
}

// TestDrawnBytes: edits' bytes that are cut, changed, put in or taken out, and bytes that were never an edit's.
func TestDrawnBytes(t *testing.T) {
	r := rand.New(rand.NewSource(2))
	told := 0
	for range 20000 {
		b, _ := encodeByWords(drawnGood(r, drawnVersion(r)))
		i := r.Intn(len(b))
		c := string([]byte{byte(r.Intn(1 << r.Intn(9)))})
		switch r.Intn(4) {
		case 0:
			b = b[:i] + c + b[i+1:]
		case 1:
			b = b[:i] + c + b[i:]
		case 2:
			b = b[:i] + b[i+1:]
		case 3:
			x := make([]byte, r.Intn(12))
			for i := range x {
				x[i] = byte(r.Intn(3))
			}
			b = string(x)
		}
		if _, wrong := decoded(t, "drawn", b); wrong == api.OK {
			told++
		}
	}
	if told < 1000 || told > 19000 {
		t.Errorf("%d of the drawn bytes are edits': too few of one kind", told)
	}
}

// TestShortBytes: all rows of up to six bytes of these.
func TestShortBytes(t *testing.T) {
	var all func(b string)
	all = func(b string) {
		decoded(t, "short", b)
		if len(b) < 6 {
			for _, c := range []string{"\x00", "\x01", "\x05", "\x80"} {
				all(b + c)
			}
		}
	}
	all("")
}
