package lsm_test

import (
	"bytes"
	"fmt"
	"slices"
	"strings"
	"testing"

	"moraine/api"
	"moraine/codec"
	"moraine/disk"
	"moraine/lsm"
	"moraine/manifest"
	"moraine/table"
	"moraine/wal"
)

// keptDisk: a disk with a store that has tables at some levels, a log with several batches, and files of others; and its model.
func keptDisk(t *testing.T) (*disk.Disk, *model) {
	t.Helper()
	d, m := newDisk(t, 1<<23), newModel()
	for _, name := range others() {
		d.Create(name)
		d.Append(name, []byte(name))
	}
	deeds := []deed{}
	for i := range 9 {
		deeds = append(deeds, deed{what: "write", batch: []api.Op{set(fmt.Sprintf("key%d", i*4%9), strings.Repeat("v", 20+i)), del("gone")}})
		switch {
		case i == 3:
			deeds = append(deeds, deed{what: "settle", n: 2})
		case i < 6:
			deeds = append(deeds, deed{what: "flush"})
		}
	}
	if out := play(d, options(), m, deeds); out.err != nil {
		t.Fatal(out.err)
	}
	return d, m
}

// others: names that are no store's.
func others() []string {
	return []string{"mine", "lsm", "lsm.log", "old-blocks", "xlsm-log", "table-0"}
}

func storeNames(d *disk.Disk) []string {
	names, _ := d.Names()
	return slices.DeleteFunc(names, func(s string) bool { return !strings.HasPrefix(s, "lsm-") })
}

// TestOtherFiles: that files of other names are left as they are, whatever they hold.
func TestOtherFiles(t *testing.T) {
	d, m := keptDisk(t)
	d.Append("lsm", []byte("more"))
	opened(t, d, options())
	d.Restart(api.Crash{Names: 100}) // what isn't sure of them isn't made so, but names
	db := opened(t, d, options())
	if say(db, db.Last()) != m.sayWorld(m.last()) {
		t.Errorf("P11.7: %s", say(db, db.Last()))
	}
	for _, name := range others() {
		if b, e := d.Read(name); len(b) != 0 || e != api.OK {
			t.Errorf("P11.1: %s: %q, %d", name, b, e)
		}
	}
	for _, name := range storeNames(d) {
		if d.Remove(name) != api.OK {
			t.Error(name)
		}
	}
	if db := opened(t, d, options()); db.Last() != 0 {
		t.Errorf("P11.1: %d operations of no store's files", db.Last())
	}
}

// broken: that Open tells a disk to have files that no store left, and touches nothing.
func broken(t *testing.T, what string, d *disk.Disk) {
	t.Helper()
	count := d.Count()
	db, err := lsm.Open(d, options())
	if db != nil || !is(err, api.ErrLsmBroken) {
		t.Errorf("P11.1: %s: %v", what, err)
	}
	if d.Count() != count {
		t.Errorf("P11.1: %s: the disk was changed", what)
	}
}

func TestStrayFiles(t *testing.T) {
	for _, name := range []string{"lsm-", "lsm-x", "lsm-log2", "lsm-table", "lsm-table-", "lsm-table--1", "lsm-table-01", "lsm-table-x", "lsm-table-5000", "lsm-table-2147483648", "lsm-table-99999999999999999999"} {
		d, _ := keptDisk(t)
		d.Create(name)
		broken(t, name, d)
		d = newDisk(t, 1<<20)
		d.Create(name)
		broken(t, name+" alone", d)
	}
}

// TestFilesAheadOfAFlush: which files may be there of a store that has never made a table.
func TestFilesAheadOfAFlush(t *testing.T) {
	for _, c := range []struct {
		file    string
		written bool
		want    api.Errno
	}{
		{"lsm-table-0", true, api.OK},
		{"lsm-draft", true, api.OK},
		{"lsm-table-1", true, api.ErrLsmBroken},
		{"lsm-table-0", false, api.ErrLsmBroken},
		{"lsm-draft", false, api.ErrLsmBroken},
		{"lsm-manifest", true, api.ErrLsmBroken},
		{"lsm-manifest", false, api.ErrLsmBroken},
	} {
		d := newDisk(t, 1<<20)
		db := opened(t, d, options())
		if c.written {
			db.Write([]api.Op{set("a", "1")})
		}
		d.Create(c.file)
		again, err := lsm.Open(d, options())
		if !is(err, c.want) || err == nil && say(again, 1) != `"a"="1" ` {
			t.Errorf("P11.1: %s, %v: %v", c.file, c.written, err)
		}
	}
	d := newDisk(t, 1<<20)
	opened(t, d, options()).Write([]api.Op{set("a", "1")})
	d.Create("lsm-manifest")
	d.Append("lsm-manifest", logOf([]byte{0, 0, 0, 0, 0}))
	broken(t, "a version of nothing", d)
	d = newDisk(t, 1<<20)
	opened(t, d, options())
	d.Append("lsm-log", logOf([]byte{0, 1, 0, 0}))
	broken(t, "an operation 0", d)
}

func TestRemovedFiles(t *testing.T) {
	d, _ := keptDisk(t)
	names := storeNames(d)
	if len(names) < 4 {
		t.Fatalf("too few files: %v", names)
	}
	for _, name := range names {
		d, _ := keptDisk(t)
		d.Remove(name)
		broken(t, "without "+name, d)
		d, _ = keptDisk(t)
		for _, other := range names {
			if other != name {
				d.Remove(other)
			}
		}
		broken(t, name+" alone", d)
	}
	for _, name := range names {
		for _, other := range names {
			if name == other {
				continue
			}
			d, _ := keptDisk(t)
			d.Rename(name, other)
			broken(t, name+" in the place of "+other, d)
		}
	}
}

// TestChangedBytes: that a byte that is changed in any file is told, but where a log may as well have been torn there.
func TestChangedBytes(t *testing.T) {
	d, m := keptDisk(t)
	whole := m.sayWorld(m.last())
	for _, name := range storeNames(d) {
		b, _ := d.Read(name)
		lastBlock := (len(b) - 1) / api.LogBlock * api.LogBlock
		for i, x := range b {
			for _, mask := range []byte{1, 0x80, 0xFF} {
				d.WriteAt(name, i, []byte{x ^ mask})
				d.Sync(name)
				db, err := lsm.Open(d, options())
				switch {
				case is(err, api.ErrLsmBroken):
				case err != nil || name != "lsm-log" || i < lastBlock:
					t.Fatalf("P11.1: %s, byte %d of %d: %v", name, i, len(b), err)
				case say(db, db.Last()) == whole || db.Last() >= m.last():
					t.Fatalf("P11.1: %s, byte %d of %d isn't looked at", name, i, len(b))
				}
				d.Truncate(name, 0)
				d.Append(name, b)
				d.Sync(name)
			}
		}
	}
	if db := opened(t, d, options()); say(db, db.Last()) != whole {
		t.Errorf("P11.7: %s", say(db, db.Last()))
	}
}

// TestCutFiles: tables and manifests that are cut off are told; a log isn't: it has what lies wholly ahead of the cut.
func TestCutFiles(t *testing.T) {
	d, m := keptDisk(t)
	for _, name := range storeNames(d) {
		b, _ := d.Read(name)
		for n := range b {
			d.Truncate(name, n)
			if name != "lsm-log" {
				broken(t, fmt.Sprint(name, " of ", n, " bytes"), d)
			} else {
				db := opened(t, d, options())
				records, _ := wal.Read(b[:n])
				all, _ := wal.Read(b)
				if want := m.last() - 2*uint64(len(all)-len(records)); db.Last() != want || say(db, want) != m.sayWorld(want) {
					t.Errorf("P11.7: a log of %d bytes: Last %d, not %d", n, db.Last(), want)
				}
			}
			d.Truncate(name, 0)
			d.Append(name, b)
		}
		d.Append(name, []byte{1, 2, 3, 4, 5, 0, 0, 0, 0})
		broken(t, name+" with more behind it", d)
		d.Truncate(name, len(b))
	}
}

// rewritten: that Open tells a store to be broken whose file has other bytes.
func rewritten(t *testing.T, what string, d *disk.Disk, name string, b []byte) {
	t.Helper()
	before, _ := d.Read(name)
	d.Truncate(name, 0)
	d.Append(name, b)
	broken(t, what, d)
	d.Truncate(name, 0)
	d.Append(name, before)
}

// logOf: a log of those records.
func logOf(records ...[]byte) []byte {
	var b []byte
	for _, x := range records {
		more, _ := wal.Append(len(b), x)
		b = append(b, more...)
	}
	return b
}

// TestWrongEdits: manifests whose bytes are right, but that no store writes.
func TestWrongEdits(t *testing.T) {
	d, _ := keptDisk(t)
	b, _ := d.Read("lsm-manifest")
	v, _, _, _ := manifest.Replay(b)
	encoded := func(change func(*api.Edit)) []byte {
		e, _ := manifest.Whole(v)
		change(&e)
		x, _ := manifest.Encode(e)
		return x
	}
	for what, x := range map[string][]byte{
		"no edit":          nil,
		"an empty record":  logOf(nil),
		"no edit's bytes":  logOf([]byte{1, 2, 3}),
		"another log":      logOf(encoded(func(e *api.Edit) { e.Log = 1 })),
		"no operations":    logOf(encoded(func(e *api.Edit) { e.Seq = 0 })),
		"too few":          logOf(encoded(func(e *api.Edit) { e.Seq-- })),
		"too many":         logOf(encoded(func(e *api.Edit) { e.Seq++ })),
		"far more":         logOf(encoded(func(e *api.Edit) { e.Seq += 1000 })),
		"a table's size":   logOf(encoded(func(e *api.Edit) { e.Add[0].File.Size++ })),
		"a table's number": logOf(encoded(func(e *api.Edit) { e.Next += 100; e.Add[0].File.Number = v.Next + 9 })),
		"a number back":    logOf(encoded(func(e *api.Edit) { e.Next = 0 })),
		"a table's first":  logOf(encoded(func(e *api.Edit) { e.Add[0].File.Least = append([]byte("a"), e.Add[0].File.Least...) })),
		"a table's last":   logOf(encoded(func(e *api.Edit) { e.Add[0].File.Most = append([]byte("z"), e.Add[0].File.Most...) })),
		"the edit twice":   logOf(encoded(func(*api.Edit) {}), encoded(func(*api.Edit) {})),
	} {
		rewritten(t, "a manifest with "+what, d, "lsm-manifest", x)
	}
	d.Truncate("lsm-log", 0) // nothing but tables tells moments now
	opened(t, d, options())
	rewritten(t, "a manifest with too few, and no log", d, "lsm-manifest", logOf(encoded(func(e *api.Edit) { e.Seq-- })))
}

// TestWrongTables: tables whose bytes are right, but that no store writes.
func TestWrongTables(t *testing.T) {
	long := make([]byte, api.MaxValue+1)
	for i, c := range []struct {
		seq   uint64
		kind  int
		value []byte
		want  api.Errno
	}{
		{1, api.Set, nil, api.OK},
		{2, api.Set, long[1:], api.OK},
		{2, api.Delete, nil, api.OK},
		{0, api.Set, nil, api.ErrLsmBroken},
		{3, api.Set, nil, api.ErrLsmBroken},
		{2, api.Set, long, api.ErrLsmBroken},
		{2, api.Delete, []byte("1"), api.ErrLsmBroken},
	} {
		key, _ := codec.Key([]byte("a"), c.seq, c.kind)
		b, _ := table.Build([]api.KV{{Key: key, Value: c.value}}, options().Plan)
		f := api.File{Number: 0, Size: len(b), Least: key, Most: key}
		x, _ := manifest.Encode(api.Edit{Next: 1, Seq: 2, Add: []api.Placed{{Level: 1, File: f}}})
		d := newDisk(t, 1<<20)
		for name, content := range map[string][]byte{"lsm-log": nil, "lsm-manifest": logOf(x), "lsm-table-0": b} {
			d.Create(name)
			d.Append(name, content)
		}
		db, err := lsm.Open(d, options())
		if !is(err, c.want) || err == nil && db.Last() != 2 {
			t.Errorf("P11.1: row %d: %v", i, err)
		}
	}
}

// TestWrongRecords: logs whose bytes are right, but that no store writes.
func TestWrongRecords(t *testing.T) {
	d, m := keptDisk(t)
	b, _ := d.Read("lsm-log")
	records, _ := wal.Read(b)
	if len(records) != 3 {
		t.Fatalf("%d records", len(records))
	}
	first := records[0]
	great := append([]byte{first[0]}, 0x80, 0x80, 4) // 65536 deletes of keys of 50 bytes
	for range api.MaxBatch {
		great = append(append(great, 0, 50), make([]byte, 50)...)
	}
	spoilt := func(at int, x byte) []byte {
		c := bytes.Clone(first)
		c[at] = x
		return c
	}
	for what, l := range map[string][][]byte{
		"an empty one":              {nil},
		"a number alone":            {first[:1]},
		"no operations":             {{first[0], 0}},
		"an operation too few":      {spoilt(1, 1)},
		"an operation too many":     {spoilt(1, 3)},
		"no such kind":              {spoilt(2, 2)},
		"a byte too many":           {append(bytes.Clone(first), 0)},
		"a byte too few":            {first[:len(first)-1]},
		"the first operation 0":     {{0, 1, 0, 0}},
		"the number of another":     {spoilt(0, first[0]+1)},
		"one that tables have half": {spoilt(0, first[0]-1)},
		"one ahead of tables":       {spoilt(0, first[0]-4)},
		"one twice":                 {first, first},
		"one left out":              {first, records[2]},
		"another order":             {records[1], records[0], records[2]},
		"a key that is too long":    {append([]byte{first[0], 1, 0, 129, 1}, make([]byte, 129)...)},
		"more than a batch has":     {great},
		"a value that is too long":  {append([]byte{first[0], 1, 1, 0, 129, 128, 1}, make([]byte, 16385)...)},
	} {
		rewritten(t, "a log with "+what, d, "lsm-log", logOf(l...))
	}
	for what, l := range map[string][][]byte{ // what a Flush leaves whose last call failed
		"ahead of what tables have": {spoilt(0, first[0]-2)},
		"and behind it":             {spoilt(0, first[0]-2), first, records[1]},
	} {
		d.Truncate("lsm-log", 0)
		d.Append("lsm-log", logOf(l...))
		db := opened(t, d, options())
		if want := m.last() - 6 + 2*uint64(len(l)-1); db.Last() != want || say(db, want) != m.sayWorld(want) {
			t.Errorf("P11.7: a log with records %s: %d, not %d", what, db.Last(), want)
		}
	}
}

// TestLeftovers: files that a step leaves that was cut off are no harm, and go with what is written next.
func TestLeftovers(t *testing.T) {
	for _, what := range []string{"write", "flush", "compact", "settle"} {
		d, m := keptDisk(t)
		names := strings.Join(storeNames(d), " ")
		v := opened(t, d, options()).Version()
		for _, number := range []int{0, v.Next, v.Next + 1, v.Next + 255} {
			name := fmt.Sprint("lsm-table-", number)
			if !strings.Contains(names+" ", name+" ") {
				d.Create(name)
				d.Append(name, make([]byte, 100))
			}
		}
		d.Create("lsm-draft")
		d.Append("lsm-draft", []byte{1, 2, 3})
		db := opened(t, d, options())
		if strings.Join(storeNames(d), " ") == names || say(db, db.Last()) != m.sayWorld(m.last()) {
			t.Errorf("P11.7: %s", say(db, db.Last()))
		}
		x := deed{what: what, n: 1}
		switch what {
		case "compact":
			x.n = 0
		case "write":
			x.batch = []api.Op{set("more", "1")}
		}
		if err := x.do(db); err != nil {
			t.Fatal(err)
		}
		m.write(x.batch)
		want := 2 // the log, the manifest
		for _, n := range counts(db.Version()) {
			want += n
		}
		if got := storeNames(d); len(got) != want {
			t.Errorf("%s: %v of a version of %v", what, got, counts(db.Version()))
		}
		d.Restart(api.Crash{})
		db = opened(t, d, options())
		if say(db, db.Last()) != m.sayWorld(m.last()) {
			t.Errorf("P11.7: %s", say(db, db.Last()))
		}
	}
}

// TestDown: an Open while the power is down.
func TestDown(t *testing.T) {
	d, m := keptDisk(t)
	d.Halt(0)
	d.Create("x")
	if db, err := lsm.Open(d, options()); db != nil || !is(err, api.ErrDiskDown) {
		t.Errorf("P11.1: %v", err)
	}
	d.Restart(api.Crash{})
	if db := opened(t, d, options()); say(db, db.Last()) != m.sayWorld(m.last()) {
		t.Errorf("P11.7: %s", say(db, db.Last()))
	}
}
