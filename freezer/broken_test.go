package freezer_test

import (
	"bytes"
	"fmt"
	"slices"
	"strings"
	"testing"

	"moraine/api"
	"moraine/codec"
	"moraine/disk"
	"moraine/freezer"
)

// others: names that are no freezer's.
func others() []string {
	return []string{"mine", "old", "old.tail-0", "lsm-log", "xold-tail-0", "tail-0", "old_x"}
}

// keptDisk: a disk with a freezer that has several parts in each table, and files of others; and its model.
func keptDisk(t *testing.T) (*disk.Disk, *model) {
	t.Helper()
	d, _, m := filled(t, 3, 12, 40)
	for _, name := range others() {
		d.Create(name)
		d.Append(name, []byte(name))
	}
	return d, m
}

// parts: the names of a table's parts, rising by their items.
func parts(d *disk.Disk, table string) []string {
	var l []string
	for n := range 100 {
		for i, name := range names() {
			part := fmt.Sprint("old-part-2-", i, "-", name, "-", n)
			if _, e := d.Size(part); e == api.OK && name == table {
				l = append(l, part)
			}
		}
	}
	return l
}

func freezerNames(d *disk.Disk) []string {
	names, _ := d.Names()
	return slices.DeleteFunc(names, func(s string) bool { return !strings.HasPrefix(s, "old-") })
}

// TestOtherFiles: that files of other names are left as they are, whatever they hold.
func TestOtherFiles(t *testing.T) {
	d, m := keptDisk(t)
	f := openedWith(t, d, names(), 40) // names are sure now, bytes of others aren't
	if f.Append(12, item("x", "y")) != nil || f.TruncateTail(7) != nil || f.TruncateHead(8) != nil || f.Sync() != nil {
		t.Fatal("P12.2")
	}
	for _, name := range others() {
		if b, e := d.Read(name); string(b) != name || e != api.OK {
			t.Errorf("P12.1: %s: %q, %d", name, b, e)
		}
	}
	d.Restart(api.Crash{})
	for _, name := range others() {
		if b, e := d.Read(name); len(b) != 0 || e != api.OK {
			t.Errorf("P12.1: %s: %q, %d", name, b, e)
		}
	}
	m.done(deed{what: "tail", n: 7})
	m.done(deed{what: "head", n: 8})
	agree(t, openedWith(t, d, names(), 40), m)
	for _, name := range freezerNames(d) {
		d.Remove(name)
	}
	if f := opened(t, d, []string{"new"}); f.Tail() != 0 || f.Head() != 0 {
		t.Errorf("P12.1: %s", say(f, 1))
	}
}

// broken: that Open tells a disk to have files that no freezer left, and changes nothing.
func broken(t *testing.T, what string, d *disk.Disk) {
	t.Helper()
	count := d.Count()
	f, err := freezer.Open(d, names())
	if f != nil || !is(err, api.ErrFreezerBroken) {
		t.Errorf("P12.1: %s: %v", what, err)
	}
	if d.Count() != count {
		t.Errorf("P12.1: %s: the disk was changed", what)
	}
}

func TestStrayFiles(t *testing.T) {
	for _, name := range []string{
		"old-", "old-x", "old-tail", "old-tail-", "old-tail-00", "old-tail-03", "old-tail--1", "old-tail-x", "old-tail-3-", "old-tail-2147483648", "old-tail-99999999999999999999",
		"old-part", "old-part-", "old-part-2-0-head", "old-part-2-0-head-", "old-part-2-0-head-x", "old-part-2-0-head-00", "old-part-2-0-head--1", "old-part-2-0-head-0-", "old-part-2-0-head-2147483648",
		"old-part-2-00-head-0", "old-part-02-0-head-0", "old-part-2-0--0", "old-part-2-0-h1-0", "old-part-2-0-h_d-0", "old-part-2-0-aaaaaaaaaaaaaaaaa-0", "old-part-2-2-more-0", "old-part-9-8-more-0", "old-part-0-0-head-0", "old-part--1-0-head-0", "old-part-2-0-1-0",
	} {
		d, _ := keptDisk(t)
		d.Create(name)
		broken(t, name, d)
		if f, err := freezer.Open(d, []string{"other"}); f != nil || !is(err, api.ErrFreezerTables) {
			t.Errorf("P12.1: %s beside other tables: %v", name, err)
		}
		d = newDisk(t, 1<<20)
		d.Create(name)
		broken(t, name+" alone", d)
		d.Create("old-part-2-0-head-0")
		broken(t, name+" and a part", d)
	}
	d, _ := keptDisk(t)
	d.Create("old-tail-4")
	broken(t, "two tails", d)
}

// TestMakings: which files are left of a freezer that was never made to its end: another one is made in their place, of whatever tables.
func TestMakings(t *testing.T) {
	for _, c := range []struct {
		files string
		want  api.Errno
	}{
		{"", api.OK},
		{"old-part-2-0-head-0", api.OK},
		{"old-part-2-0-head-0 old-part-2-1-body-0", api.OK},
		{"old-part-1-0-body-0", api.OK},
		{"old-part-3-0-a-0 old-part-3-1-b-0 old-part-3-2-c-0", api.OK},
		{"old-part-2-1-body-0", api.ErrFreezerBroken},
		{"old-part-2-0-head-1", api.ErrFreezerBroken},
		{"old-part-2-0-head-0 old-part-2-0-head-1", api.ErrFreezerBroken},
		{"old-part-2-0-head-0 old-part-2-0-body-0", api.ErrFreezerBroken},
		{"old-part-2-0-head-0 old-part-2-1-head-0", api.ErrFreezerBroken},
		{"old-part-2-0-head-0 old-part-3-1-body-0", api.ErrFreezerBroken},
		{"old-part-3-0-head-0 old-part-3-2-body-0", api.ErrFreezerBroken},
		{"old-tail-0", api.ErrFreezerBroken},
		{"old-tail-0 old-part-2-0-head-0", api.ErrFreezerBroken},
		{"old-tail-0 old-part-2-1-body-0", api.ErrFreezerBroken},
		{"old-tail-0 old-part-2-0-head-0 old-part-2-1-body-0", api.OK},
		{"old-tail-0 old-part-2-0-head-0 old-part-2-1-body-1", api.ErrFreezerBroken},
		{"old-tail-1 old-part-2-0-head-0 old-part-2-1-body-0", api.ErrFreezerBroken},
		{"old-tail-1 old-part-2-0-head-0 old-part-2-1-body-1", api.ErrFreezerBroken},
		{"old-tail-0 old-part-2-0-head-1 old-part-2-1-body-1", api.ErrFreezerBroken},
		{"old-tail-1 old-part-2-0-head-1 old-part-2-1-body-1", api.OK},
		{"old-tail-2147483647 old-part-2-0-head-2147483647 old-part-2-1-body-2147483647", api.OK},
		{"old-tail-2147483648 old-part-2-0-head-2147483648 old-part-2-1-body-2147483648", api.ErrFreezerBroken},
		{"old-tail-0 old-part-1-0-head-0", api.ErrFreezerTables},
		{"old-tail-0 old-part-3-0-head-0 old-part-3-1-body-0", api.ErrFreezerTables},
		{"old-tail-0 old-tail-1 old-part-1-0-x-0", api.ErrFreezerTables},
		{"old-tail-0 old-part-2-0-body-0 old-part-2-1-head-0", api.ErrFreezerTables},
	} {
		d := newDisk(t, 1<<20)
		for _, name := range strings.Fields(c.files) {
			d.Create(name)
		}
		f, err := freezer.Open(d, names())
		if !is(err, c.want) || (f == nil) != (c.want != api.OK) {
			t.Errorf("P12.1: %s: %v", c.files, err)
			continue
		}
		if f == nil {
			continue
		}
		if f.Head() != f.Tail() || len(freezerNames(d)) != 3 {
			t.Errorf("P12.1: %s: %s, %v", c.files, say(f, 2), freezerNames(d))
		}
		d.Restart(api.Crash{})
		if g := opened(t, d, names()); say(g, 2) != say(f, 2) {
			t.Errorf("P12.5: %s: %s", c.files, say(g, 2))
		}
	}
	for _, name := range []string{"old-part-2-0-head-0", "old-part-2-1-body-0"} {
		d := newDisk(t, 1<<20)
		d.Create("old-part-2-0-head-0")
		d.Create("old-part-2-1-body-0")
		d.Append(name, []byte{1})
		broken(t, name+" with bytes", d)
	}
}

// TestUnmade: that an Open that was cut off leaves nothing that is in the way of another one, be it of other tables, unless the freezer is there whole.
func TestUnmade(t *testing.T) {
	for _, restart := range []bool{false, true} {
		for names := range 6 {
			for call := 1; ; call++ {
				d := newDisk(t, 1<<20)
				d.Fail(call)
				f, err := freezer.Open(d, []string{"a", "b"})
				if f != nil {
					break
				}
				if !is(err, api.ErrDiskIO) {
					t.Fatalf("P12.1: %v", err)
				}
				if restart {
					d.Restart(api.Crash{Names: names})
				}
				whole := slices.Contains(freezerNames(d), "old-tail-0")
				f, err = freezer.Open(d, []string{"other"})
				if whole && !is(err, api.ErrFreezerTables) || !whole && (err != nil || f.Append(0, item("x")) != nil || f.Sync() != nil) {
					t.Fatalf("P12.1: call %d: %v", call, err)
				}
				d.Restart(api.Crash{})
				if whole {
					opened(t, d, []string{"a", "b"})
				} else if f := opened(t, d, []string{"other"}); say(f, 1) != "0-1:x," {
					t.Fatalf("P12.5: %s", say(f, 1))
				}
			}
		}
	}
}

// begins: that a freezer tells the first ones of the model's items, but not all of them.
func begins(t *testing.T, what string, f *freezer.Freezer, m *model) {
	t.Helper()
	_, got, _ := strings.Cut(say(f, len(m.tables)), ":")
	_, all, _ := strings.Cut(m.say(), ":")
	if f.Tail() != m.tail || f.Head() >= m.head || !strings.HasPrefix(all, got) {
		t.Fatalf("P12.5: %s: %s", what, say(f, len(m.tables)))
	}
}

func TestRemovedFiles(t *testing.T) {
	d, m := keptDisk(t)
	all := freezerNames(d)
	head, body := parts(d, "head"), parts(d, "body")
	if len(head) < 3 || len(body) < 3 || len(all) != len(head)+len(body)+1 {
		t.Fatalf("too few files: %v", all)
	}
	for _, name := range all {
		d, _ := keptDisk(t)
		d.Remove(name)
		if last := name == head[len(head)-1] || name == body[len(body)-1]; last {
			// Nothing tells that it was ever there.
			begins(t, "without "+name, openedWith(t, d, names(), 40), m)
		} else {
			broken(t, "without "+name, d)
		}
		for _, other := range all {
			d, _ := keptDisk(t)
			if name != other && d.Rename(name, other) == api.OK {
				broken(t, name+" in the place of "+other, d)
			}
		}
	}
	for _, table := range names() {
		d, _ := keptDisk(t)
		for _, name := range parts(d, table) {
			d.Remove(name)
		}
		broken(t, "without "+table, d)
	}
}

// replace gives a file other bytes.
func replace(d *disk.Disk, name string, b []byte) {
	d.Truncate(name, 0)
	d.Append(name, b)
}

// TestChangedBytes: that a byte that is changed is told, but where a last part may as well have been torn there; a wrong value is never told.
func TestChangedBytes(t *testing.T) {
	d, m := keptDisk(t)
	head, body := parts(d, "head"), parts(d, "body")
	torn := 0
	for _, name := range slices.Concat(head, body) {
		b, _ := d.Read(name)
		for i, x := range b {
			for _, mask := range []byte{1, 2, 0x40, 0x80, 0xFF} {
				c := bytes.Clone(b)
				c[i] = x ^ mask
				replace(d, name, c)
				f, err := freezer.OpenWith(d, names(), 40)
				switch {
				case is(err, api.ErrFreezerBroken):
				case err != nil || name != head[len(head)-1] && name != body[len(body)-1]:
					t.Fatalf("P12.1: %s, byte %d: %v", name, i, err)
				default:
					torn++
					begins(t, fmt.Sprint(name, ", byte ", i), f, m)
					d, _ = keptDisk(t) // the other table was cut
				}
				replace(d, name, b)
			}
		}
	}
	agree(t, openedWith(t, d, names(), 40), m)
	if torn == 0 {
		t.Error("no change was as if torn")
	}
}

// TestCutFiles: parts that are cut off are told, but for the last one of a table: that has what lies wholly ahead of the cut.
func TestCutFiles(t *testing.T) {
	d, m := keptDisk(t)
	head, body := parts(d, "head"), parts(d, "body")
	for _, name := range slices.Concat(head, body) {
		b, _ := d.Read(name)
		for n := range b {
			d, _ := keptDisk(t)
			d.Truncate(name, n)
			if name != head[len(head)-1] && name != body[len(body)-1] {
				broken(t, fmt.Sprint(name, " of ", n, " bytes"), d)
				continue
			}
			begins(t, fmt.Sprint(name, " of ", n, " bytes"), openedWith(t, d, names(), 40), m)
		}
		d, _ := keptDisk(t)
		d.Append(name, []byte{1, 2, 3, 4, 0, 0, 0, 0, 0})
		broken(t, name+" with more behind it", d)
		d, _ = keptDisk(t)
		d.Append(name, []byte{1, 2, 3})
		if name != head[len(head)-1] && name != body[len(body)-1] {
			broken(t, name+" with something torn behind it", d)
		} else {
			agree(t, openedWith(t, d, names(), 40), m)
		}
	}
	d.Append("old-tail-3", []byte{0})
	broken(t, "a tail with bytes", d)
}

// frame: an item's value as it stands in a table's part.
func frame(table, n int, value string) []byte {
	b, _ := codec.Frame(slices.Concat(codec.Put(uint64(table)), codec.Put(uint64(n)), []byte(value)))
	return b
}

// TestWrongParts: parts whose sums are right, but that no freezer writes; and what is left of a write that was cut off.
func TestWrongParts(t *testing.T) {
	great := strings.Repeat("v", api.MaxValue)
	first := frame(0, 0, "first")
	short := func(b []byte, n int) []byte { return b[:n] }
	for what, c := range map[string]struct {
		b    []byte
		want api.Errno
		head int
	}{
		"nothing":                    {nil, api.OK, 0},
		"an item":                    {first, api.OK, 1},
		"two items":                  {slices.Concat(first, frame(0, 1, "")), api.OK, 2},
		"an item twice":              {slices.Concat(first, first), api.ErrFreezerBroken, 0},
		"an item left out":           {slices.Concat(first, frame(0, 2, "")), api.ErrFreezerBroken, 0},
		"an item of another table":   {slices.Concat(first, frame(1, 1, "")), api.ErrFreezerBroken, 0},
		"an item ahead of its place": {frame(0, 1, ""), api.ErrFreezerBroken, 0},
		"a great value":              {frame(0, 0, great), api.OK, 1},
		"a value that is too great":  {frame(0, 0, great+"v"), api.ErrFreezerBroken, 0},
		"a frame without a mark":     {[]byte{0, 0, 0, 0, 0}, api.ErrFreezerBroken, 0},
		"a torn sum":                 {append(bytes.Clone(first), 9, 9, 9), api.OK, 1},
		"a sum":                      {append(bytes.Clone(first), 9, 9, 9, 9), api.OK, 1},
		"a torn length":              {append(bytes.Clone(first), 9, 9, 9, 9, 0x80, 0x80), api.OK, 1},
		"a length that doesn't end":  {append(bytes.Clone(first), 9, 9, 9, 9, 0x80, 0x80, 0x80), api.ErrFreezerBroken, 0},
		"a length that is too long":  {append(bytes.Clone(first), 9, 9, 9, 9, 0x81, 0), api.ErrFreezerBroken, 0},
		"a length that is too small": {append(bytes.Clone(first), 9, 9, 9, 9, 1), api.ErrFreezerBroken, 0},
		"a length alone":             {append(bytes.Clone(first), 9, 9, 9, 9, 2), api.OK, 1},
		"the greatest length":        {append(bytes.Clone(first), 9, 9, 9, 9, 0x82, 0x80, 1), api.OK, 1},
		"a length above it":          {append(bytes.Clone(first), 9, 9, 9, 9, 0x83, 0x80, 1), api.ErrFreezerBroken, 0},
		"a length above all frames":  {append(bytes.Clone(first), 9, 9, 9, 9, 0x81, 0x80, 0x80, 1), api.ErrFreezerBroken, 0},
		"a torn mark":                {append(bytes.Clone(first), 9, 9, 9, 9, 5, 0), api.OK, 1},
		"another's torn mark":        {append(bytes.Clone(first), 9, 9, 9, 9, 5, 1), api.ErrFreezerBroken, 0},
		"another item's mark":        {append(bytes.Clone(first), 9, 9, 9, 9, 5, 0, 2), api.ErrFreezerBroken, 0},
		"a torn value":               {append(bytes.Clone(first), 9, 9, 9, 9, 5, 0, 1, 7, 7), api.OK, 1},
		"a value with another sum":   {append(bytes.Clone(first), 9, 9, 9, 9, 5, 0, 1, 7, 7, 7), api.ErrFreezerBroken, 0},
		"a great value that is torn": {short(frame(0, 0, great), api.MaxValue), api.OK, 0},
	} {
		d := newDisk(t, 1<<20)
		opened(t, d, []string{"a"})
		d.Append("old-part-1-0-a-0", c.b)
		f, err := freezer.Open(d, []string{"a"})
		if !is(err, c.want) || f != nil && (f.Tail() != 0 || f.Head() != c.head) {
			t.Errorf("P12.1: %s: %v", what, err)
		}
	}
	d, m := keptDisk(t)
	head, body := parts(d, "head"), parts(d, "body")
	a, _ := d.Read(head[0])
	b, _ := d.Read(body[0])
	replace(d, head[0], b)
	replace(d, body[0], a)
	broken(t, "parts of two tables in each other's place", d)
	replace(d, head[0], a)
	replace(d, body[0], b)
	agree(t, openedWith(t, d, names(), 40), m)
}

// TestTails: of items that are there, and of those that aren't.
func TestTails(t *testing.T) {
	d, m := keptDisk(t)
	for tail := range 20 {
		d.Rename(freezerNames(d)[len(freezerNames(d))-1], fmt.Sprint("old-tail-", tail))
		f, err := freezer.OpenWith(d, names(), 40)
		if tail > m.head && (f != nil || !is(err, api.ErrFreezerBroken)) || tail <= m.head && (err != nil || f.Tail() != tail || f.Head() != m.head) {
			t.Errorf("P12.1: Tail %d: %v", tail, err)
		}
	}
	d.Rename("old-tail-19", "old-tail-0")
	broken(t, "items that were cut off", d)
}

// TestDown: an Open while the power is down.
func TestDown(t *testing.T) {
	d, m := keptDisk(t)
	openedWith(t, d, names(), 40)
	d.Halt(0)
	d.Create("x")
	for _, tables := range [][]string{names(), {"other"}} {
		if f, err := freezer.Open(d, tables); f != nil || !is(err, api.ErrDiskDown) {
			t.Errorf("P12.1: %v", err)
		}
	}
	d.Restart(api.Crash{})
	agree(t, openedWith(t, d, names(), 40), m)
}

// TestDownElsewhere: that power that fell at a call of somebody else is told, and that nothing is taken any more from then on.
func TestDownElsewhere(t *testing.T) {
	for _, x := range []deed{{"append", 12, []string{"x", "y"}}, {what: "head", n: 7}, {what: "tail", n: 7}, {what: "sync"}} {
		d, f, m := filled(t, 3, 12, 40)
		d.Halt(0)
		d.SyncDir()
		if b, err := f.Get(0, 5); len(b) != 0 || !is(err, api.ErrDiskDown) {
			t.Errorf("P12.2: %q, %v", b, err)
		}
		fallen(t, outcome{f: f, m: m, did: x, err: x.do(f)})
	}
}
