package table_test

import (
	"math"
	"math/rand"
	"slices"
	"strings"
	"testing"

	"moraine/api"
	"moraine/table"
)

// relaid: a file whose i-th data block is another one, with whatever sum; the index has its place, and the last keys as they were.
func relaid(t *testing.T, file string, i int, b string) string {
	t.Helper()
	_, m := opened(t, "relaid", file)
	_, filter, _ := parted(file)
	blocks := slices.Clone(m.blocks)
	blocks[i] = b
	var index []row
	at := 0
	for k, b := range blocks {
		index = append(index, row{m.lasts[k], place(at, len(b)-4)})
		at += len(b)
	}
	return joined(strings.Join(blocks, ""), filter, blockOf(1, index...))
}

// several: users a, c, e .. with an entry in a block of its own each, but for m, whose entries stand in three blocks.
func several() []row {
	var rows []row
	for _, user := range []string{"a", "c", "e", "m", "x", "z"} {
		n := 1
		if user == "m" {
			n = 3
		}
		for i := range n {
			rows = append(rows, row{key(user, uint64(3-i), i%2), "value " + user})
		}
	}
	return rows
}

// hurts: what may be wrong with a data block, and what is told of it.
func hurts(b string, last row) []struct {
	block string
	want  api.Errno
} {
	body := b[:len(b)-4]
	other := row{key(userOf(last.key), momentOf(last.key)/256+1, 1), ""}
	return []struct {
		block string
		want  api.Errno
	}{
		{changed(b, 0, 1), api.ErrTableSum},
		{changed(b, len(b)/2, 128), api.ErrTableSum},
		{changed(b, len(b)-5, 1), api.ErrTableSum},
		{changed(b, len(b)-4, 1), api.ErrTableSum},
		{changed(b, len(b)-1, 128), api.ErrTableSum},
		{body + "\x00\x00\x00\x00", api.ErrTableSum},
		{"no block" + four(sum("no bloc")), api.ErrTableSum},
		{"\x00\x00\x00\x01", api.ErrTableSum},
		{sealed(""), api.ErrTableForm},
		{sealed("\x00"), api.ErrTableForm},
		{sealed("no block"), api.ErrTableForm},
		{sealed(body + "\x00"), api.ErrTableForm},
		{sealed(body[1:]), api.ErrTableForm},
		{sealed(changed(body, 1, 1)), api.ErrTableForm},
		{sealed(blockOf(1)), api.ErrTableForm},
		{sealed(blockOf(1, other)), api.ErrTableForm},
		{sealed(blockOf(2, row{key("", 9, 1), "x"}, other)), api.ErrTableForm},
		{sealed(blockOf(2, last, row{key(strings.Repeat("\xff", 9), 1, 1), "behind"})), api.ErrTableForm},
		{sealed(blockOf(1, row{key(userOf(last.key)+"\x00", 1, 1), last.value})), api.ErrTableForm},
	}
}

// TestHurtBlocks: each block, hurt in each way: which calls tell it, and which don't look at it.
func TestHurtBlocks(t *testing.T) {
	rows := several()
	file := built(t, "hurt", rows, plan(16, 2, 10))
	sound, m := opened(t, "hurt", file)
	if len(m.blocks) != len(rows) {
		t.Fatalf("P8.2: %d blocks", len(m.blocks))
	}
	for i, b := range m.blocks {
		for k, c := range hurts(b, rows[i]) {
			other := relaid(t, file, i, c.block)
			alike(t, "hurt", other, about(rows))
			x, e := table.Open([]byte(other))
			if e != api.OK || x.Blocks() != len(rows) {
				t.Fatalf("P8.3: block %d, hurt %d: %d", i, k, e)
			}
			if l, e := x.All(); l != nil || e != c.want {
				t.Errorf("P8.4: block %d, hurt %d: All: %d, want %d", i, k, e, c.want)
			}
			for j, y := range rows {
				v, _, ok, e := x.Get([]byte(userOf(y.key)), momentOf(y.key)/256)
				if i == j && (v != nil || ok || e != c.want) {
					t.Errorf("P8.4: block %d, hurt %d: Get of its own: %x, %t, %d, want %d", i, k, v, ok, e, c.want)
				}
				if i != j && (string(v) != y.value || !ok || e != api.OK) {
					t.Errorf("P8.4: block %d, hurt %d: Get of block %d's: %x, %t, %d", i, k, j, v, ok, e)
				}
			}
		}
	}
	if l, e := sound.All(); !slices.Equal(rowsOf(l), rows) || e != api.OK {
		t.Errorf("P8.5: %d entries, %d", len(l), e)
	}
}

// TestWhichBlocksRangeLooksAt: told by the blocks of which a hurt is told.
func TestWhichBlocksRangeLooksAt(t *testing.T) {
	rows := several() // a c e m m m x z: blocks 0 to 7
	file := built(t, "looked at", rows, plan(16, 2, 10))
	for _, c := range []struct {
		least, most string
		first, last int // of the blocks that are looked at
	}{
		{"", "", 0, 7}, {"a", "", 0, 7}, {"b", "", 1, 7}, {"c", "", 1, 7}, {"e\x00", "", 3, 7}, {"m", "", 3, 7}, {"m\x00", "", 6, 7}, {"z", "", 7, 7}, {"z\x00", "", 8, 7},
		{"", "\x00", 0, 0}, {"", "A", 0, 0}, {"", "a", 0, 1}, {"", "b", 0, 1}, {"", "c", 0, 2}, {"", "e", 0, 3}, {"", "l", 0, 3}, {"", "m", 0, 6}, {"", "n", 0, 6}, {"", "x", 0, 7}, {"", "y", 0, 7}, {"", "z", 0, 7}, {"", "zz", 0, 7},
		{"c", "c", 1, 2}, {"c", "e", 1, 3}, {"d", "d", 2, 2}, {"m", "m", 3, 6}, {"l", "l", 3, 3}, {"n", "n", 6, 6}, {"z", "z", 7, 7}, {"zz", "zzz", 8, 7}, {"y", "y", 7, 7},
		// Most ahead of least: the first block is looked at, and as it is behind most no other one.
		{"c", "b", 1, 1}, {"m", "a", 3, 3}, {"z", "\x00", 7, 7}, {"zz", "a", 8, 7}, {"b", "a", 1, 1},
	} {
		for i := range rows {
			x, m := opened(t, "looked at", relaid(t, file, i, sealed("no block")))
			ranged(t, "looked at", x, m, c.least, c.most)
			want := api.OK
			if c.first <= i && i <= c.last {
				want = api.ErrTableForm
			}
			if _, e := x.Range([]byte(c.least), []byte(c.most)); e != want {
				t.Errorf("P8.4: Range(%q, %q), block %d is hurt: %d, want %d", c.least, c.most, i, e, want)
			}
		}
	}
}

// TestWhichErrorOfTheBlocks: that of the first of those that are looked at.
func TestWhichErrorOfTheBlocks(t *testing.T) {
	rows := several()
	file := built(t, "which error", rows, plan(16, 2, 10))
	for i := range rows {
		for k := range rows {
			if i == k {
				continue
			}
			other := relaid(t, relaid(t, file, i, sealed("no block")), k, "no block"+four(7))
			alike(t, "which error", other, []string{"", "a", "b", "m", "n", "x", "z"})
			want := api.ErrTableForm
			if k < i {
				want = api.ErrTableSum
			}
			x, _ := table.Open([]byte(other))
			if l, e := x.All(); l != nil || e != want {
				t.Errorf("P8.4: blocks %d and %d: All: %d, want %d", i, k, e, want)
			}
		}
	}
	// A sum is looked at ahead of what it is of.
	x, _ := opened(t, "both", relaid(t, file, 0, "no block"+four(7)))
	if _, e := x.All(); e != api.ErrTableSum {
		t.Errorf("P8.4: no block, and another sum: %d", e)
	}
}

// TestOtherBlocksThatAreTaken: what a block holds ahead of its last key is nobody's business.
func TestOtherBlocksThatAreTaken(t *testing.T) {
	rows := several()
	file := built(t, "taken", rows, plan(16, 2, 64))
	for i, y := range rows {
		early := row{key("", 5, 0), "early"}
		for _, b := range []string{
			blockOf(1, early, y), blockOf(64, early, y), blockOf(2, early, row{key("\x00", 1, 1), "next"}, y), blockOf(7, row{y.key, "another value"}),
			blockOf(3, row{key(userOf(y.key), 1<<50, 0), "newer"}, y),
		} {
			other := relaid(t, file, i, sealed(b))
			alike(t, "taken", other, about(rows))
			x, _ := table.Open([]byte(other))
			if _, e := x.All(); e != api.OK {
				t.Errorf("P8.4: block %d: %d", i, e)
			}
		}
	}
	x, _ := opened(t, "early", relaid(t, file, 3, sealed(blockOf(1, row{key("b", 1, 1), "early"}, rows[3]))))
	if l, e := x.Range([]byte("b"), []byte("d")); e != api.OK || len(l) != 1 || userOf(string(l[0].Key)) != "c" {
		t.Errorf("P8.4: Range looks at a block behind the last one: %d, %d", len(l), e)
	}
	if l, e := x.Range([]byte("b"), []byte("e")); e != api.OK || len(l) != 3 || userOf(string(l[2].Key)) != "b" {
		t.Errorf("P8.4: Range of entries in the blocks' order: %d, %d", len(l), e)
	}
}

func TestGetByHand(t *testing.T) {
	long := strings.Repeat("l", 128)
	rows := []row{
		{key("", 4, 1), "none"}, {key("b", 7, 1), "seven"}, {key("b", 5, 1), "five"}, {key("b", 5, 0), "gone at five"}, {key("b", 2, 0), ""},
		{key("b\x00", 1<<56-1, 0), "top"}, {key("b\x00", 0, 1), "zero"}, {key(long, 3, 1), "long"},
	}
	for _, size := range []int{16, 30, 40, 65536} {
		x, m := opened(t, "by hand", built(t, "by hand", rows, plan(size, 2, 20)))
		for _, c := range []struct {
			user string
			seq  uint64
			want string
			kind int
			ok   bool
		}{
			{"", 3, "", 0, false}, {"", 4, "none", 1, true}, {"", 5, "none", 1, true}, {"", math.MaxUint64, "none", 1, true},
			{"a", 1, "", 0, false}, {"a", 1 << 56, "", 0, false},
			{"b", 8, "seven", 1, true}, {"b", 7, "seven", 1, true}, {"b", 6, "five", 1, true}, {"b", 5, "five", 1, true}, {"b", 4, "", 0, true}, {"b", 2, "", 0, true}, {"b", 1, "", 0, false}, {"b", 0, "", 0, false},
			{"b\x00", 1<<56 - 1, "top", 0, true}, {"b\x00", 1 << 56, "top", 0, true}, {"b\x00", math.MaxUint64, "top", 0, true}, {"b\x00", 1<<56 - 2, "zero", 1, true}, {"b\x00", 0, "zero", 1, true},
			{"b\x00\x00", 5, "", 0, false}, {"c", 5, "", 0, false}, {long, 3, "long", 1, true}, {long, 2, "", 0, false}, {long[1:], 3, "", 0, false}, {long + "l", 3, "", 0, false}, {"z", 9, "", 0, false},
		} {
			got(t, "by hand", x, m, c.user, c.seq)
			v, kind, ok, e := x.Get([]byte(c.user), c.seq)
			if string(v) != c.want || kind != c.kind || ok != c.ok || e != api.OK {
				t.Errorf("P8.4: Block %d: Get(%.20q, %d): %q, %d, %t, %d", size, c.user, c.seq, v, kind, ok, e)
			}
		}
	}
}

// TestLongUsers: none of them is looked for, even where the filter has it.
func TestLongUsers(t *testing.T) {
	rows := []row{{key(strings.Repeat("z", 128), 3, 1), "x"}}
	file := built(t, "long", rows, plan(16, 1, 10))
	data, _, index := parted(file)
	for _, n := range []int{129, 130, 136, 137, 5000} {
		long := strings.Repeat("z", n)
		for _, filter := range []string{"", filterOf(10, long)} {
			x, _ := opened(t, "long", joined(changed(data, 0, 1), filter, index))
			if v, kind, ok, e := x.Get([]byte(long[:n-1]+"a"), 3); v != nil || kind != 0 || ok || e != api.OK {
				t.Errorf("P8.4: a user key of %d bytes: %x, %d, %t, %d", n, v, kind, ok, e)
			}
			if !x.May([]byte(long)) {
				t.Errorf("P8.4: May of a user key of %d bytes", n)
			}
		}
	}
	x, _ := opened(t, "longest", joined(changed(data, 0, 1), "", index))
	if _, _, _, e := x.Get([]byte(strings.Repeat("z", 128)), 3); e != api.ErrTableSum {
		t.Errorf("P8.4: the longest user key: %d", e)
	}
}

func TestRangeByHand(t *testing.T) {
	rows := several() // a c e m m m x z
	for _, size := range []int{16, 40, 60, 65536} {
		x, m := opened(t, "ranges", built(t, "ranges", rows, plan(size, 2, 10)))
		for _, c := range []struct{ least, most, want string }{
			{"", "", "acemmmxz"}, {"", "z", "acemmmxz"}, {"a", "z", "acemmmxz"}, {"a", "zzz", "acemmmxz"}, {"", "y", "acemmmx"}, {"b", "y", "cemmmx"},
			{"m", "m", "mmm"}, {"l", "n", "mmm"}, {"m\x00", "w", ""}, {"m", "l", ""}, {"z", "a", ""}, {"z", "", "z"}, {"z\x00", "", ""}, {"", "a", "a"}, {"", "\x00", ""},
			{"a\x00", "c", "c"}, {"c", "c\x00", "c"}, {"\xff", "", ""}, {"\xff", "\xff\xff", ""}, {strings.Repeat("n", 300), "", "xz"}, {"e", strings.Repeat("m", 300), "emmm"},
		} {
			ranged(t, "ranges", x, m, c.least, c.most)
			l, e := x.Range([]byte(c.least), []byte(c.most))
			users := ""
			for _, y := range l {
				users += userOf(string(y.Key))
			}
			if users != c.want || e != api.OK {
				t.Errorf("P8.4: Block %d: Range(%.9q, %.9q): %q, %d, want %q", size, c.least, c.most, users, e, c.want)
			}
		}
		for _, none := range [][]byte{nil, {}} {
			if l, e := x.Range(none, none); !slices.Equal(rowsOf(l), rows) || e != api.OK {
				t.Errorf("P8.4: Range of no bytes: %d entries, %d", len(l), e)
			}
		}
	}
}

func TestMay(t *testing.T) {
	rows := letters(45)
	for _, bits := range []int{1, 10, 64} {
		x, m := opened(t, "may", built(t, "may", rows, plan(100, 4, bits)))
		let := 0
		for i := range 1000 {
			user := "other" + number(i)
			if x.May([]byte(user)) != m.may(user) {
				t.Errorf("P8.4: May(%x): %t", user, !m.may(user))
			}
			if m.may(user) {
				let++
			}
		}
		if bits > 1 && let > 100 {
			t.Errorf("P8.2: %d bits: %d of 1000 are let through", bits, let)
		}
		for _, y := range rows {
			if !x.May([]byte(userOf(y.key))) {
				t.Errorf("P8.6: %d bits: May(%s) is false", bits, userOf(y.key))
			}
		}
	}
}

// TestAllCallsOfDrawnTables: what P8.5 and P8.6 say, by the entries alone.
func TestAllCallsOfDrawnTables(t *testing.T) {
	r := rand.New(rand.NewSource(3))
	for range 250 {
		rows := drawnRows(r, 1+r.Intn(40))
		p := drawnPlan(r)
		b, e := table.Build(entries(rows), p)
		x, f := table.Open(b)
		if e != api.OK || f != api.OK {
			t.Fatalf("P8.5: %v: %d, %d", p, e, f)
		}
		if l, e := x.All(); e != api.OK || !slices.Equal(rowsOf(l), rows) {
			t.Fatalf("P8.5: %v: All: %d entries, %d", p, len(l), e)
		}
		for _, user := range about(rows) {
			for _, seq := range append(moments(), r.Uint64()>>8) {
				i := slices.IndexFunc(rows, func(y row) bool { return userOf(y.key) == user && momentOf(y.key)/256 <= seq })
				want, kind := "", 0
				if i >= 0 {
					want, kind = rows[i].value, int(momentOf(rows[i].key)%256)
				}
				v, k, ok, e := x.Get([]byte(user), seq)
				if string(v) != want || k != kind || ok != (i >= 0) || e != api.OK {
					t.Fatalf("P8.6: %v: Get(%x, %d): %x, %d, %t, %d, want %x, %d", p, user, seq, v, k, ok, e, want, kind)
				}
			}
		}
		alike(t, "drawn", string(b), about(rows)[:min(9, len(about(rows)))])
	}
}

// TestEachByteChanged: what P8.5 says of a changed byte.
func TestEachByteChanged(t *testing.T) {
	r := rand.New(rand.NewSource(4))
	for range 12 {
		rows := drawnRows(r, 1+r.Intn(12))
		file := built(t, "changed", rows, drawnPlan(r))
		for i := range file {
			x, e := table.Open([]byte(changed(file, i, byte(1+r.Intn(255)))))
			if e == api.OK {
				_, e = x.All()
			}
			if e != api.ErrTableSum && e != api.ErrTableForm {
				t.Fatalf("P8.5: byte %d of %d changed: %d", i, len(file), e)
			}
		}
	}
}
