package table_test

import (
	"encoding/hex"
	"math"
	"math/rand"
	"strings"
	"testing"

	"moraine/api"
	"moraine/table"
)

func TestOneEntryByHand(t *testing.T) {
	b, e := table.Build(entries([]row{{key("a", 1, 1), "x"}}), plan(16, 1, 10))
	want := "000901610101000000000000780000000001000000" + "d934004a" +
		"010001010001010106" + "63beef85" +
		"00090261010100000000000000150000000001000000" + "3c61dbf2" +
		"1900000000000000" + "0900000000000000" + "2600000000000000" + "1600000000000000" + "af1b77cd" + "6d6f7261696e6531"
	if hex.EncodeToString(b) != want || e != api.OK {
		t.Errorf("P8.2: %x, %d", b, e)
	}
	x, e := table.Open(b)
	if e != api.OK || x.Blocks() != 1 {
		t.Errorf("P8.3: %d", e)
	}
}

func TestABlockForEach(t *testing.T) {
	for _, n := range []int{1, 2, 3, 10, 45} {
		x, _ := opened(t, "a block for each", built(t, "a block for each", letters(n), plan(16, 1, 10)))
		if x.Blocks() != n {
			t.Errorf("P8.2: Block 16, %d entries of 20 bytes: %d blocks", n, x.Blocks())
		}
	}
}

func TestPlans(t *testing.T) {
	good := func() api.Plan { return api.Plan{Block: 100, Restart: 4, Bits: 10, Table: 1000} }
	for _, c := range []struct {
		what        string
		put         func(p *api.Plan, n int)
		least, most int
	}{
		{"Block", func(p *api.Plan, n int) { p.Block = n }, 16, 65536},
		{"Restart", func(p *api.Plan, n int) { p.Restart = n }, 1, 64},
		{"Bits", func(p *api.Plan, n int) { p.Bits = n }, 1, 64},
		{"Table", func(p *api.Plan, n int) { p.Table = n }, 16, 1 << 22},
	} {
		for _, n := range []int{math.MinInt, -1, 0, c.least - 1, c.least, c.least + 1, c.most - 1, c.most, c.most + 1, math.MaxInt32, math.MaxInt} {
			p := good()
			c.put(&p, n)
			want := api.OK
			if n < c.least || n > c.most {
				want = api.ErrTablePlan
			}
			if e := table.Check(p); e != want {
				t.Errorf("P8.1: %s %d: %d", c.what, n, e)
			}
			if want == api.OK {
				alike(t, c.what, built(t, c.what, letters(7), p), nil)
			} else {
				unbuilt(t, c.what, letters(7), p, want)
				unbuilt(t, c.what, nil, p, want)
				unbuilt(t, c.what, []row{{"no key", ""}}, p, want)
			}
		}
	}
	if e := table.Check(api.Plan{}); e != api.ErrTablePlan {
		t.Errorf("P8.1: no plan: %d", e)
	}
	for _, p := range []api.Plan{{Block: 16, Restart: 1, Bits: 1, Table: 16}, {Block: 65536, Restart: 64, Bits: 64, Table: 1 << 22}} {
		if e := table.Check(p); e != api.OK {
			t.Errorf("P8.1: %v: %d", p, e)
		}
		built(t, "edges", letters(20), p)
	}
}

func TestNoEntries(t *testing.T) {
	for _, none := range [][]api.KV{nil, {}, entries(letters(3))[:0]} {
		if b, e := table.Build(none, plan(16, 1, 10)); b != nil || e != api.ErrTableNone {
			t.Errorf("P8.2: none: %x, %d", b, e)
		}
		if b, e := table.Build(none, plan(15, 1, 10)); b != nil || e != api.ErrTablePlan {
			t.Errorf("P8.2: none, no plan: %x, %d", b, e)
		}
	}
}

// TestTableOfThePlan: a table has all entries, however many bytes the plan would have it.
func TestTableOfThePlan(t *testing.T) {
	rows := letters(40)
	small, _ := table.Build(entries(rows), api.Plan{Block: 50, Restart: 2, Bits: 10, Table: 16})
	great, _ := table.Build(entries(rows), api.Plan{Block: 50, Restart: 2, Bits: 10, Table: 1 << 22})
	if string(small) != string(great) {
		t.Errorf("P8.2: Table changes what is built")
	}
}

// TestFullBlocks: a block is full as soon as its keys and values have Block bytes, and not before.
func TestFullBlocks(t *testing.T) {
	for _, size := range []int{16, 19, 20, 21, 39, 40, 41, 59, 60, 61, 99, 100, 101} {
		fill := (size + 19) / 20
		for _, n := range []int{fill - 1, fill, fill + 1, 2*fill - 1, 2 * fill, 2*fill + 1} {
			if n == 0 {
				continue
			}
			for _, restart := range []int{1, 2, 64} {
				rows := letters(n)
				x, m := opened(t, "full", built(t, "full", rows, plan(size, restart, 10)))
				if want := (n + fill - 1) / fill; x.Blocks() != want || len(m.blocks) != want {
					t.Errorf("P8.2: Block %d, %d entries of 20 bytes: %d blocks", size, n, x.Blocks())
				}
				for i, last := range m.lasts {
					if last != rows[min(fill*(i+1), n)-1].key {
						t.Errorf("P8.2: Block %d, %d entries: block %d ends with %x", size, n, i, last)
					}
				}
			}
		}
	}
}

// TestKeysAndValuesFill: an entry's bytes are its key's, the 8 behind the user key too, and its value's.
func TestKeysAndValuesFill(t *testing.T) {
	for _, c := range []struct {
		user, value, want int
	}{{8, 0, 2}, {7, 0, 1}, {7, 1, 2}, {0, 8, 2}, {0, 7, 1}, {4, 4, 2}, {4, 3, 1}, {128, 0, 2}, {0, 16384, 2}, {3, 3, 1}} {
		rows := []row{{key(strings.Repeat("a", c.user), 1, 1), strings.Repeat("v", c.value)}, {key("b", 1, 1), ""}}
		if x, _ := opened(t, "fill", built(t, "fill", rows, plan(16, 4, 10))); x.Blocks() != c.want {
			t.Errorf("P8.2: user key of %d, value of %d bytes, Block 16: %d blocks", c.user, c.value, x.Blocks())
		}
	}
}

func TestEntriesThatCantBe(t *testing.T) {
	for _, bad := range []string{"", "x", "1234567", key("z", 1, 2), key(strings.Repeat("z", 129), 1, 1), key("z", 1, 255)} {
		for _, at := range []int{0, 1, 4, 9} {
			rows := letters(10)
			rows[at].key = bad
			unbuilt(t, "no internal key", rows, plan(20, 2, 10), api.ErrBlockOrder)
			unbuilt(t, "no internal key, no plan", rows, plan(20, 0, 10), api.ErrTablePlan)
		}
		unbuilt(t, "only one", []row{{bad, ""}}, plan(65536, 64, 64), api.ErrBlockOrder)
	}
	for _, size := range []int{16, 40, 60, 65536} { // whether or not both stand in one block
		for at := range 9 {
			rows := letters(10)
			rows[at], rows[at+1] = rows[at+1], rows[at]
			unbuilt(t, "falling", rows, plan(size, 2, 10), api.ErrBlockOrder)
			rows = letters(10)
			rows[at].key = rows[at+1].key
			unbuilt(t, "the same twice", rows, plan(size, 2, 10), api.ErrBlockOrder)
			unbuilt(t, "the same twice, no plan", rows, plan(size, 2, 65), api.ErrTablePlan)
		}
	}
	unbuilt(t, "an older one first", []row{{key("a", 1, 1), ""}, {key("a", 2, 1), ""}}, plan(16, 1, 1), api.ErrBlockOrder)
	unbuilt(t, "Delete ahead of Set", []row{{key("a", 1, 0), ""}, {key("a", 1, 1), ""}}, plan(16, 1, 1), api.ErrBlockOrder)
}

// TestUsersOnce: a filter has bits for each user key, not for each entry.
func TestUsersOnce(t *testing.T) {
	var rows []row
	for _, user := range []string{"", "a", "ab", "b"} {
		for seq := uint64(40); seq > 0; seq-- {
			rows = append(rows, row{key(user, seq, 1), ""}, row{key(user, seq, 0), ""})
		}
	}
	for _, bits := range []int{1, 16, 17, 64} {
		_, m := opened(t, "once", built(t, "once", rows, plan(60, 4, bits)))
		if m.filter != filterOf(bits, "", "a", "ab", "b") || len(m.filter) != 1+max(8, (4*bits+7)/8) {
			t.Errorf("P8.2: %d bits: a filter of %d bytes", bits, len(m.filter))
		}
	}
}

func TestDrawnBuilds(t *testing.T) {
	r := rand.New(rand.NewSource(1))
	for range 600 {
		if rows := drawnRows(r, 1+r.Intn(40)); len(rows) > 0 {
			built(t, "drawn", rows, drawnPlan(r))
		}
	}
}

// TestFarPlaces: blocks at places whose numbers have some bytes.
func TestFarPlaces(t *testing.T) {
	var rows []row
	for i := range 40 {
		rows = append(rows, row{key(string([]byte{byte(i)}), 1, 1), strings.Repeat("f", 9973)})
	}
	for _, size := range []int{16, 20000, 65536} {
		alike(t, "far places", built(t, "far places", rows, plan(size, 7, 10)), []string{"\x00", "\x13", "\x27"})
	}
}

// TestSharedUserAcrossBlocks: entries of one user key on both sides of a block's end.
func TestSharedUserAcrossBlocks(t *testing.T) {
	var rows []row
	for seq := uint64(9); seq > 0; seq-- {
		rows = append(rows, row{key("mid", seq, int(seq%2)), strings.Repeat("v", int(seq))})
	}
	rows = append([]row{{key("ahead", 1, 1), "x"}}, append(rows, row{key("n", 1, 1), "y"})...)
	for _, size := range []int{16, 20, 40, 60, 100, 65536} {
		x, m := opened(t, "across", built(t, "across", rows, plan(size, 2, 10)))
		for seq := uint64(0); seq < 12; seq++ {
			got(t, "across", x, m, "mid", seq)
			v, kind, ok, e := x.Get([]byte("mid"), seq)
			if n := int(min(seq, 9)); len(v) != n || kind != n%2 || ok != (seq > 0) || e != api.OK {
				t.Errorf("P8.5: Block %d: Get(mid, %d): %s, %d, %t, %d", size, seq, v, kind, ok, e)
			}
		}
		if l, e := x.Range([]byte("mid"), []byte("mid")); len(l) != 9 || e != api.OK {
			t.Errorf("P8.4: Block %d: Range(mid, mid): %d entries, %d", size, len(l), e)
		}
	}
}
