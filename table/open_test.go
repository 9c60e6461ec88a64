package table_test

import (
	"encoding/binary"
	"math"
	"math/rand"
	"slices"
	"strings"
	"testing"

	"moraine/api"
	"moraine/table"
)

// changed: s with other bits at a place.
func changed(s string, at int, bits byte) string {
	b := []byte(s)
	b[at] ^= bits
	return string(b)
}

func TestTooShort(t *testing.T) {
	file := built(t, "short", letters(6), plan(40, 2, 10))
	for n := range file {
		refused(t, "cut off", file[:n], api.ErrTableForm)
	}
	for n := range 44 {
		end := foot(0, 0, 0, 0)
		refused(t, "only an end", end[len(end)-n:], api.ErrTableForm)
		refused(t, "zeros", strings.Repeat("\x00", n), api.ErrTableForm)
	}
	for n := 1; n < len(file)-43; n++ {
		if x, e := table.Open([]byte(file[n:])); x != nil || e != api.ErrTableForm {
			t.Errorf("P8.3: without the first %d bytes: %d", n, e)
		}
	}
}

func TestLastBytes(t *testing.T) {
	file := built(t, "last bytes", letters(6), plan(40, 2, 10))
	for i := len(file) - 8; i < len(file); i++ {
		for bits := 1; bits < 256; bits++ {
			refused(t, "last bytes", changed(file, i, byte(bits)), api.ErrTableForm)
		}
	}
	for _, more := range []string{"\x00", "1", "moraine2", "Moraine1"} {
		refused(t, "more behind it", file+more, api.ErrTableForm)
	}
	refused(t, "its end once more", file+"moraine1", api.ErrTableSum)
	refused(t, "other last bytes, and another sum", changed(changed(file, len(file)-9, 1), len(file)-1, 1), api.ErrTableForm)
}

// TestFooterChanged: without its sum, and with it.
func TestFooterChanged(t *testing.T) {
	for _, rows := range [][]row{letters(1), letters(6)} {
		file := built(t, "footer", rows, plan(40, 2, 10))
		begin := len(file) - 44
		for i := begin; i < begin+36; i++ {
			for _, bits := range []byte{1, 2, 4, 8, 16, 32, 64, 128, 255} {
				refused(t, "footer changed", changed(file, i, bits), api.ErrTableSum)
			}
		}
		for i := range 32 {
			for bits := 1; bits < 256; bits++ {
				other := changed(file[begin:begin+32], i, byte(bits))
				refused(t, "footer changed, with its sum", file[:begin]+sealed(other)+"moraine1", api.ErrTableForm)
			}
		}
	}
}

func TestWhereTheIndexEnds(t *testing.T) {
	file := built(t, "places", letters(6), plan(40, 2, 10))
	data, filter, index := parted(file)
	body := file[:len(file)-44]
	f, fl := uint64(len(data)), uint64(len(filter))
	i, il := f+fl+4, uint64(len(index))
	if body+foot(f, fl, i, il) != file {
		t.Fatalf("P8.2: the footer isn't that of the parts")
	}
	const top = math.MaxUint64
	for _, n := range [][4]uint64{
		{f, fl, i, il + 1}, {f, fl, i, il - 1}, {f, fl, i + 1, il}, {f, fl, i - 1, il}, {f, fl, i, il + 4}, {f, fl, i, top}, {f, fl, top, il},
		{f, fl, i + 1, il - 1}, {f, fl, i - 1, il + 1}, {f, fl + 1, i, il}, {f, fl - 1, i, il}, {f + 1, fl, i, il}, {f - 1, fl, i, il}, {f, fl + 4, i, il},
		{f, top, i, il}, {top, fl, i, il}, {0, 0, 0, 0}, {top, top, top, top}, {i, il, f, fl},
		// Sums that would be right, if numbers wrapped round.
		{f, fl, top - 3, il + i + 4}, {f, fl, top, il + i + 1}, {top, fl + f + 1, i, il}, {top - 3, fl + f + 4, i, il}, {fl + f + 1, top, i, il}, {f, fl, il + i + 1, top},
		{f, fl, uint64(len(body)), top - 3}, {f, fl, uint64(len(body)) - 1, top - 2}, {i, top - 3, i, il}, {i - 1, top - 2, i, il}, {f, fl, 1 << 63, 1<<63 + i + il},
		{1 << 63, 1<<63 + f + fl, i, il}, {f, fl, uint64(len(body)) - 3, top}, {i - 3, top, i, il}, {i - 2, top - 1, i, il},
	} {
		refused(t, "places", body+foot(n[:]...), api.ErrTableForm)
	}
	refused(t, "a filter of all", joined("", data+sealed(filter), index), api.ErrTableForm)
	refused(t, "only a footer", foot(0, 0, 0, 0), api.ErrTableForm)
	for n := range 8 {
		for _, x := range []uint64{0, 1, top, top - 3, uint64(n), uint64(n) - 4} {
			for _, y := range []uint64{0, 1, 4, top, top - 3, uint64(n), uint64(n) - 4} {
				for _, z := range []uint64{0, 4, top - 3, uint64(n) - 4} {
					opened(t, "few bytes", strings.Repeat("\x00", n)+foot(z, y-z-4, y, x))
					opened(t, "few bytes", strings.Repeat("\x00", n)+foot(0, x, y, z))
				}
			}
		}
	}
}

// TestSumsOfIndexAndFilter: each byte, and each byte of its sum, changed.
func TestSumsOfIndexAndFilter(t *testing.T) {
	file := built(t, "sums", letters(6), plan(40, 2, 10))
	data, _, _ := parted(file)
	for i := len(data); i < len(file)-44; i++ {
		for _, bits := range []byte{1, 2, 4, 8, 16, 32, 64, 128, 255} {
			refused(t, "changed", changed(file, i, bits), api.ErrTableSum)
		}
	}
	// A sum stands ahead of what is wrong with the index.
	bad := joined(data, "filter", "no index")
	refused(t, "no index", bad, api.ErrTableForm)
	refused(t, "no index, and a filter with another sum", changed(bad, len(data), 1), api.ErrTableSum)
	refused(t, "no index, and another sum", changed(bad, len(data)+len(sealed("filter")), 1), api.ErrTableSum)
	// Where things stand is ahead of the sums.
	refused(t, "another sum, another place", changed(file[:len(file)-44], len(data), 1)+foot(1, 2, 3, 4), api.ErrTableForm)
}

// TestIndexChanged: with sums that are right for what was changed.
func TestIndexChanged(t *testing.T) {
	rows := letters(6)
	file := built(t, "index", rows, plan(40, 2, 10))
	data, filter, index := parted(file)
	taken := 0
	for i := range index {
		for bits := 1; bits < 256; bits++ {
			other := joined(data, filter, changed(index, i, byte(bits)))
			if x, _ := opened(t, "index changed", other); x != nil {
				taken++
				alike(t, "index changed", other, []string{"usaa", "usab", "x"})
				if _, e := x.All(); e != api.ErrTableForm {
					t.Errorf("P8.4: byte %d of the index changed: %d", i, e)
				}
			}
		}
	}
	if taken == 0 {
		t.Errorf("P8.3: no other last key was taken")
	}
	for n := range index {
		refused(t, "index cut off", joined(data, filter, index[:n]), api.ErrTableForm)
	}
	refused(t, "more behind the index", joined(data, filter, index+"\x00"), api.ErrTableForm)
}

// TestFilterChanged: a filter is what it is, whatever it is made of.
func TestFilterChanged(t *testing.T) {
	rows := letters(6)
	data, filter, index := parted(built(t, "filter", rows, plan(40, 2, 10)))
	for i := range filter {
		for bits := 1; bits < 256; bits++ {
			alike(t, "filter changed", joined(data, changed(filter, i, byte(bits)), index), []string{"usaa", "usab"})
		}
	}
	for _, other := range []string{"", "\x00", "12345678", "\x00\x00\x00\x00\x00\x00\x00\x00\x01", "\x00\x00\x00\x00\x00\x00\x00\x00\x00", "\xff\xff\xff\xff\xff\xff\xff\xff\x1e", strings.Repeat("filter", 100)} {
		alike(t, "another filter", joined(data, other, index), about(rows))
		if x, e := table.Open([]byte(joined(data, other, index))); x == nil || e != api.OK {
			t.Errorf("P8.3: a filter of %d bytes: %d", len(other), e)
		}
	}
	// Under a filter that has nothing, Get looks at no block.
	hurt := joined(changed(data, 0, 1), strings.Repeat("\x00", 8)+"\x01", index)
	x, _ := opened(t, "nothing in the filter", hurt)
	for _, y := range rows {
		if v, kind, ok, e := x.Get([]byte(userOf(y.key)), 9); v != nil || kind != 0 || ok || e != api.OK {
			t.Errorf("P8.4: Get of what the filter hasn't: %x, %d, %t, %d", v, kind, ok, e)
		}
	}
}

func TestIndexes(t *testing.T) {
	rows := letters(6)
	data, filter, index := parted(built(t, "indexes", rows, plan(40, 2, 10)))
	_, m := opened(t, "indexes", joined(data, filter, index))
	var size []int
	for _, b := range m.blocks {
		size = append(size, len(b)-4)
	}
	a, b, c := m.lasts[0], m.lasts[1], m.lasts[2]
	second, third := size[0]+4, size[0]+size[1]+8
	whole := []row{{a, place(0, size[0])}, {b, place(second, size[1])}, {c, place(third, size[2])}}
	if index != blockOf(1, whole...) {
		t.Fatalf("P8.2: the index is %x", index)
	}
	with := func(i int, value string) []row {
		l := slices.Clone(whole)
		l[i].value = value
		return l
	}
	for _, c := range []struct {
		what  string
		index []row
	}{
		{"no entries", nil},
		{"the first one is missing", whole[1:]},
		{"the last one is missing", whole[:2]},
		{"the middle one is missing", []row{whole[0], whole[2]}},
		{"no value", with(0, "")}, {"no value", with(2, "")},
		{"one number", with(0, number(0))}, {"one number", with(1, number(second))},
		{"three numbers", with(0, whole[0].value+number(0))}, {"three numbers", with(2, whole[2].value+"\x01")},
		{"a number that is cut off", with(1, number(second)+"\x80")}, {"a number that is cut off", with(0, "\x80")},
		{"a number that is too long", with(0, "\x80\x00"+number(size[0]))},
		{"a number that is too long", with(0, number(0)+string([]byte{byte(size[0]) | 0x80, 0}))},
		{"a number above 2^64", with(2, number(third)+"\x80\x80\x80\x80\x80\x80\x80\x80\x80\x02")},
		{"begins behind 0", with(0, place(1, size[0]-1))}, {"begins behind 0", with(0, place(1, size[0]))},
		{"leaves a gap", with(1, place(second+1, size[1]-1))}, {"leaves a gap", with(0, place(0, size[0]-1))},
		{"overlap", with(0, place(0, size[0]+1))}, {"overlap", with(1, place(second-1, size[1]+1))},
		{"overlap", with(1, place(0, second+size[1]))},
		{"without sums between", with(1, place(second-4, size[1]+4))},
		{"ends ahead of the filter", with(2, place(third, size[2]-1))},
		{"ends behind the filter's beginning", with(2, place(third, size[2]+1))},
		{"takes in the last sum", with(2, place(third, size[2]+4))},
		{"ends far behind", with(2, place(third, 1<<40))},
		{"wraps round to 0", []row{{a, number(0) + below(4)}, {b, place(0, size[0])}, {c, place(second, len(data)-second-4)}}},
		{"wraps round to 3", []row{{a, number(0) + below(1)}, {b, place(3, size[0]-3)}, {c, place(second, len(data)-second-4)}}},
		{"wraps round to what was there", []row{{a, place(0, size[0])}, {b, number(second) + below(second+4)}, {c, place(0, len(data)-4)}}},
		{"wraps round in the room of a sum", []row{{a, place(0, len(data)-7)}, {b, number(len(data)-3) + below(1)}, {c, number(len(data)-1) + below(3)}}},
		{"begins far off", with(1, below(1)+number(size[1]))},
		{"backwards", []row{{a, whole[2].value}, {b, whole[1].value}, {c, whole[0].value}}},
		{"one twice", []row{{a, whole[0].value}, {b, whole[0].value}, {c, whole[2].value}}},
	} {
		refused(t, c.what, joined(data, filter, blockOf(1, c.index...)), api.ErrTableForm)
	}
	refused(t, "no block", joined(data, filter, ""), api.ErrTableForm)
	refused(t, "no block", joined(data, filter, "\x00\x00\x00"), api.ErrTableForm)
	refused(t, "no data", joined("", filter, blockOf(1, row{a, place(0, 0)})), api.ErrTableForm)
	refused(t, "no room for a sum", joined("\x00\x00\x00", filter, blockOf(1, row{a, place(0, 0)})), api.ErrTableForm)
	refused(t, "no room for a sum", joined("\x00\x00\x00", filter, blockOf(1, row{a, number(0) + below(1)})), api.ErrTableForm)
	refused(t, "no data, no entries", joined("", filter, blockOf(1)), api.ErrTableForm)
	refused(t, "more data", joined(data+"\x00", filter, index), api.ErrTableForm)
	refused(t, "more data", joined(data+sealed("more"), filter, index), api.ErrTableForm)
	// What is a block, of whatever restart, is an index; data blocks aren't looked at.
	for restart := 1; restart < 5; restart++ {
		alike(t, "another restart", joined(data, filter, blockOf(restart, whole...)), about(rows))
	}
	for _, other := range []string{data, strings.Repeat("\x00", len(data)), changed(data, 0, 1), strings.Repeat("x", len(data))} {
		if x, e := table.Open([]byte(joined(other, filter, index))); e != api.OK || x.Blocks() != 3 {
			t.Errorf("P8.3: data blocks are looked at: %d", e)
		}
	}
	none := "\x00\x00\x00\x00"
	alike(t, "a block of no bytes", joined(none, "", blockOf(1, row{a, place(0, 0)})), about(rows))
	if x, e := table.Open([]byte(joined(none, "", blockOf(1, row{a, place(0, 0)})))); e != api.OK || x.Blocks() != 1 {
		t.Errorf("P8.3: a block of no bytes: %d", e)
	}
	for _, value := range []string{"", number(0), number(0) + "\x80", "\x80" + number(0), number(0) + "\x80\x00", number(0) + number(0) + number(0)} {
		refused(t, "not two numbers", joined(none, "", blockOf(1, row{a, value})), api.ErrTableForm)
	}
}

// below: 2^64 less a number, as codec.Put tells it.
func below(less int) string {
	return string(binary.AppendUvarint(nil, -uint64(less)))
}

func TestDrawnFiles(t *testing.T) {
	r := rand.New(rand.NewSource(2))
	for range 1500 {
		rows := drawnRows(r, 1+r.Intn(12))
		file := buildByWords(rows, drawnPlan(r))
		data, filter, index := parted(file)
		switch r.Intn(6) {
		case 0:
			file = changed(file, r.Intn(len(file)), byte(1+r.Intn(255)))
		case 1:
			file = joined(data, filter, changed(index, r.Intn(len(index)), byte(1+r.Intn(255))))
		case 2:
			file = joined(changed(data, r.Intn(len(data)), byte(1+r.Intn(255))), filter, index)
		case 3:
			b := make([]byte, r.Intn(100))
			r.Read(b)
			file = joined(data, string(b), index)
		case 4:
			i := r.Intn(len(file))
			file = file[:i] + file[i+r.Intn(len(file)-i):]
		case 5:
			b := make([]byte, r.Intn(200))
			r.Read(b)
			file = string(b) + []string{"", "moraine1", foot(uint64(r.Intn(100)), uint64(r.Intn(100)), uint64(r.Intn(100)), uint64(r.Intn(100)))}[r.Intn(3)]
		}
		alike(t, "drawn", file, about(rows)[:min(8, len(about(rows)))])
	}
}
