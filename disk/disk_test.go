package disk_test

import (
	"fmt"
	"math"
	"slices"
	"strings"
	"testing"

	"moraine/api"
	"moraine/disk"
)

func made(t *testing.T, capacity int) *disk.Disk {
	t.Helper()
	d, e := disk.New(capacity)
	if e != api.OK || d == nil {
		t.Fatalf("New(%d): %v", capacity, e)
	}
	return d
}

// ok fails the test at the first of the answers that is an error.
func ok(t *testing.T, answers ...api.Errno) {
	t.Helper()
	for i, e := range answers {
		if e != api.OK {
			t.Fatalf("call %d: %v", i, e)
		}
	}
}

func want(t *testing.T, what string, got, want api.Errno) {
	t.Helper()
	if got != want {
		t.Errorf("%s: %d, want %d", what, got, want)
	}
}

// told: everything that reading calls tell of a disk.
func told(d *disk.Disk) string {
	names, e := d.Names()
	s := fmt.Sprint("error ", int(e), " used ", d.Used())
	for _, name := range names {
		b, e := d.Read(name)
		n, f := d.Size(name)
		s += fmt.Sprintf(" %s=%q", name, b)
		if e != api.OK || f != api.OK || n != len(b) {
			s += fmt.Sprint("!", e, f, n)
		}
	}
	return s
}

func holds(t *testing.T, what string, d *disk.Disk, want string) {
	t.Helper()
	if got := told(d); got != want {
		t.Errorf("%s:\n got %s\nwant %s", what, got, want)
	}
}

// changing: each changing call, as one on the file "a".
func changing(d *disk.Disk) map[string]func() api.Errno {
	return map[string]func() api.Errno{
		"Create":   func() api.Errno { return d.Create("new") },
		"Append":   func() api.Errno { return d.Append("a", []byte("x")) },
		"WriteAt":  func() api.Errno { return d.WriteAt("a", 0, []byte("x")) },
		"Truncate": func() api.Errno { return d.Truncate("a", 0) },
		"Sync":     func() api.Errno { return d.Sync("a") },
		"Rename":   func() api.Errno { return d.Rename("a", "b") },
		"Remove":   func() api.Errno { return d.Remove("a") },
		"SyncDir":  func() api.Errno { return d.SyncDir() },
	}
}

// reads: the answers of all reading calls, with what they tell beside.
func reads(t *testing.T, d *disk.Disk, name string) []api.Errno {
	t.Helper()
	b, e := d.Read(name)
	c, f := d.ReadAt(name, 0, 1)
	n, g := d.Size(name)
	names, h := d.Names()
	if e != api.OK && len(b) != 0 || f != api.OK && len(c) != 0 || g != api.OK && n != 0 || h != api.OK && len(names) != 0 {
		t.Errorf("something beside an error: %q %q %d %q", b, c, n, names)
	}
	return []api.Errno{e, f, g, h}
}

func TestNew(t *testing.T) {
	for _, n := range []int{-1, math.MinInt, api.MaxDisk + 1, math.MaxInt} {
		if d, e := disk.New(n); d != nil || e != api.ErrDiskSize {
			t.Errorf("P1.1: New(%d): %v, %d", n, d, e)
		}
	}
	for _, n := range []int{0, 1, api.MaxDisk} {
		d := made(t, n)
		holds(t, "P1.1: a new disk", d, "error 0 used 0")
		if d.Count() != 0 {
			t.Errorf("P1.1: Count of a new disk: %d", d.Count())
		}
	}
}

func TestCapacity(t *testing.T) {
	for _, capacity := range []int{0, 1, 4, api.MaxDisk} {
		d := made(t, capacity)
		ok(t, d.Create("a"), d.Append("a", make([]byte, capacity)), d.Append("a", nil), d.WriteAt("a", capacity, nil))
		want(t, "P1.3: Append past the capacity", d.Append("a", []byte{1}), api.ErrDiskFull)
		want(t, "P1.3: WriteAt past the capacity", d.WriteAt("a", capacity, []byte{1}), api.ErrDiskFull)
		if n, _ := d.Size("a"); n != capacity || d.Used() != capacity {
			t.Errorf("P1.1: capacity %d: %d bytes, %d used", capacity, n, d.Used())
		}
		ok(t, d.WriteAt("a", 0, make([]byte, capacity)), d.Create("b"), d.Remove("a"))
		ok(t, d.Append("b", make([]byte, capacity)))
	}
	d := made(t, 4)
	ok(t, d.Create("a"))
	want(t, "P1.3: the chapter's example", d.Append("a", []byte("12345")), api.ErrDiskFull)
	holds(t, "P1.2", d, `error 0 used 0 a=""`)
}

func TestUsed(t *testing.T) {
	d := made(t, 100)
	for i, c := range []struct {
		call func() api.Errno
		used int
	}{
		{func() api.Errno { return d.Create("a") }, 0},
		{func() api.Errno { return d.Append("a", []byte("12345")) }, 5},
		{func() api.Errno { return d.WriteAt("a", 3, []byte("6789")) }, 7},
		{func() api.Errno { return d.WriteAt("a", 1, []byte("00")) }, 7},
		{func() api.Errno { return d.Create("b") }, 7},
		{func() api.Errno { return d.Append("b", []byte("xyz")) }, 10},
		{func() api.Errno { return d.Truncate("a", 4) }, 7},
		{func() api.Errno { return d.Rename("b", "b") }, 7},
		{func() api.Errno { return d.Rename("b", "c") }, 7},
		{func() api.Errno { return d.Rename("a", "c") }, 4},
		{func() api.Errno { return d.Remove("c") }, 0},
	} {
		if e := c.call(); e != api.OK || d.Used() != c.used || d.Count() != i+1 {
			t.Errorf("P1.1: row %d: %d, used %d, want %d, count %d", i, e, d.Used(), c.used, d.Count())
		}
	}
}

func TestCount(t *testing.T) {
	d := made(t, 1)
	ok(t, d.Create("a"))
	want(t, "there", d.Create("a"), api.ErrDiskThere)
	want(t, "name", d.Append("A", nil), api.ErrDiskName)
	want(t, "none", d.Sync("b"), api.ErrDiskNone)
	want(t, "place", d.Truncate("a", 1), api.ErrDiskPlace)
	want(t, "full", d.Append("a", []byte("12")), api.ErrDiskFull)
	d.Fail(1)
	want(t, "told to fail", d.SyncDir(), api.ErrDiskIO)
	d.Halt(0)
	want(t, "down", d.SyncDir(), api.ErrDiskDown)
	reads(t, d, "a")
	if d.Count() != 8 {
		t.Errorf("P1.1, P1.2: Count %d, want 8", d.Count())
	}
	d.Restart(api.Crash{})
	if d.Count() != 8 {
		t.Errorf("P1.7: Count behind a Restart: %d, want 8", d.Count())
	}
}

func TestNamesOfFiles(t *testing.T) {
	long := strings.Repeat("z", api.MaxName)
	good := []string{"a", "z", "0", "9", ".", "-", "_", "..", "a.b-c_9", long}
	bad := []string{"", long + "z", "A", "Z", "a/b", "a b", "`", "{", "/", ":", ",", "^", "\x00", "a\x00", "é", "\xff", "a\n"}
	d := made(t, 10)
	for _, name := range good {
		ok(t, d.Create(name), d.Append(name, []byte{1}), d.Rename(name, "other"), d.Rename("other", name))
	}
	names, e := d.Names()
	slices.Sort(good)
	if !slices.Equal(names, good) || e != api.OK {
		t.Errorf("P1.3: Names: %q", names)
	}
	before := told(d)
	for _, name := range bad {
		for what, e := range map[string]api.Errno{
			"Create": d.Create(name), "Append": d.Append(name, nil), "WriteAt": d.WriteAt(name, -1, nil), "Truncate": d.Truncate(name, -1), "Sync": d.Sync(name),
			"Rename from": d.Rename(name, "a"), "Rename to": d.Rename("a", name), "Rename none to": d.Rename("none", name), "Remove": d.Remove(name),
		} {
			want(t, fmt.Sprintf("P1.2: %s of %q", what, name), e, api.ErrDiskName)
		}
		if got := reads(t, d, name)[:3]; !slices.Equal(got, []api.Errno{api.ErrDiskName, api.ErrDiskName, api.ErrDiskName}) {
			t.Errorf("P1.2: reads of %q: %v", name, got)
		}
	}
	holds(t, "P1.2: nothing changed", d, before)
}

func TestNoSuchFile(t *testing.T) {
	d := made(t, 10)
	ok(t, d.SyncDir(), d.Create("a"), d.Create("gone"), d.Remove("gone"))
	for what, e := range map[string]api.Errno{
		"Append": d.Append("gone", make([]byte, 11)), "WriteAt": d.WriteAt("gone", -1, nil), "Truncate": d.Truncate("gone", -1), "Sync": d.Sync("gone"),
		"Rename": d.Rename("gone", "a"), "Rename to itself": d.Rename("gone", "gone"), "Remove": d.Remove("gone"),
	} {
		want(t, "P1.2: "+what, e, api.ErrDiskNone)
	}
	if got := reads(t, d, "gone"); !slices.Equal(got, []api.Errno{api.ErrDiskNone, api.ErrDiskNone, api.ErrDiskNone, api.OK}) {
		t.Errorf("P1.2: reads: %v", got)
	}
	_, e := d.ReadAt("gone", -1, -1)
	want(t, "P1.2: ReadAt of no file at no place", e, api.ErrDiskNone)
	want(t, "P1.2: Create of what is there", d.Create("a"), api.ErrDiskThere)
	holds(t, "P1.2: nothing changed", d, `error 0 used 0 a=""`)
}

func TestPlaces(t *testing.T) {
	d := made(t, 6)
	ok(t, d.Create("a"), d.Append("a", []byte("1234")))
	for _, at := range []int{-1, 5, math.MinInt, math.MaxInt} {
		want(t, fmt.Sprint("P1.3: WriteAt ", at), d.WriteAt("a", at, nil), api.ErrDiskPlace)
		want(t, fmt.Sprint("P1.2: WriteAt of too much ", at), d.WriteAt("a", at, make([]byte, 7)), api.ErrDiskPlace)
		want(t, fmt.Sprint("P1.3: Truncate ", at), d.Truncate("a", at), api.ErrDiskPlace)
	}
	holds(t, "P1.2: nothing changed", d, `error 0 used 4 a="1234"`)
	for _, c := range []struct {
		at, n int
		want  string
		e     api.Errno
	}{
		{0, 0, "", 0}, {0, 4, "1234", 0}, {4, 0, "", 0}, {3, 1, "4", 0}, {1, 2, "23", 0},
		{-1, 0, "", api.ErrDiskPlace}, {0, -1, "", api.ErrDiskPlace}, {-1, 1, "", api.ErrDiskPlace}, {5, -1, "", api.ErrDiskPlace},
		{0, 5, "", api.ErrDiskPlace}, {4, 1, "", api.ErrDiskPlace}, {5, 0, "", api.ErrDiskPlace},
		{math.MaxInt, math.MaxInt, "", api.ErrDiskPlace}, {1, math.MaxInt, "", api.ErrDiskPlace}, {math.MaxInt, 1, "", api.ErrDiskPlace}, {math.MinInt, math.MinInt, "", api.ErrDiskPlace}, {math.MinInt, math.MaxInt, "", api.ErrDiskPlace},
	} {
		if b, e := d.ReadAt("a", c.at, c.n); string(b) != c.want || e != c.e {
			t.Errorf("P1.2: ReadAt %d, %d: %q, %d", c.at, c.n, b, e)
		}
	}
	ok(t, d.WriteAt("a", 0, []byte("A")), d.WriteAt("a", 4, []byte("5")), d.WriteAt("a", 4, []byte("EF")), d.Truncate("a", 6))
	holds(t, "P1.3: WriteAt", d, `error 0 used 6 a="A234EF"`)
	ok(t, d.Truncate("a", 1), d.WriteAt("a", 1, []byte("x")))
	holds(t, "P1.3: nothing comes back behind a Truncate", d, `error 0 used 2 a="Ax"`)
	ok(t, d.Truncate("a", 0), d.Truncate("a", 0))
	holds(t, "P1.3: Truncate to 0", d, `error 0 used 0 a=""`)
}

func TestFilesEverMade(t *testing.T) {
	d := made(t, 0)
	for i := range api.MaxFiles {
		if e := d.Create("a"); e != api.OK {
			t.Fatalf("P1.3: file %d: %d", i, e)
		}
		want(t, "P1.2: Create of what is there", d.Create("a"), api.ErrDiskThere)
		if i < api.MaxFiles-1 {
			ok(t, d.Remove("a"))
		}
		if i%1024 == 0 {
			ok(t, d.SyncDir())
		}
	}
	want(t, "P1.3: one file more", d.Create("b"), api.ErrDiskFull)
	want(t, "P1.2: there, ahead of full", d.Create("a"), api.ErrDiskThere)
	want(t, "P1.2: name, ahead of full", d.Create("A"), api.ErrDiskName)
	d.Restart(api.Crash{})
	want(t, "P1.7: files' numbers go on", d.Create("b"), api.ErrDiskFull)
}

func TestRename(t *testing.T) {
	d := made(t, 100)
	ok(t, d.Create("a"), d.Create("b"), d.Append("a", []byte("1")), d.Append("b", []byte("22")), d.Rename("a", "c"))
	holds(t, "P1.3: Rename", d, `error 0 used 3 b="22" c="1"`)
	ok(t, d.Rename("c", "b"))
	holds(t, "P1.3: Rename over a file", d, `error 0 used 1 b="1"`)
	ok(t, d.Rename("b", "b"), d.Append("b", []byte("+")), d.Create("c"), d.Create("a"), d.Remove("c"))
	holds(t, "P1.3: Rename to itself", d, `error 0 used 2 a="" b="1+"`)
}

func TestMemoryOfItsOwn(t *testing.T) {
	d, other := made(t, 100), made(t, 100)
	lent := append(make([]byte, 0, 9), "abc"...)
	ok(t, d.Create("a"), d.Append("a", lent), d.WriteAt("a", 3, lent))
	if string(lent[:9]) != "abc\x00\x00\x00\x00\x00\x00" {
		t.Errorf("rule 3: what was handed in has changed: %q", lent[:9])
	}
	clear(lent[:9])
	b, _ := d.Read("a")
	c, _ := d.ReadAt("a", 0, 3)
	clear(b[:cap(b)])
	_ = append(c, "zzz"...)
	clear(c)
	names, _ := d.Names()
	names[0] = "zzz"
	holds(t, "rule 3: seen", d, `error 0 used 6 a="abcabc"`)
	d.Restart(api.Crash{Names: 1, Bytes: []int{6}})
	holds(t, "rule 3: behind a Restart", d, `error 0 used 6 a="abcabc"`)
	holds(t, "two disks", other, "error 0 used 0")
	bytes := []int{1, 2, 3}
	d.Restart(api.Crash{Bytes: bytes})
	if !slices.Equal(bytes, []int{1, 2, 3}) {
		t.Errorf("rule 3: Crash has changed: %v", bytes)
	}
}

func TestFail(t *testing.T) {
	for _, n := range []int{0, -1, math.MinInt, math.MaxInt} {
		d := made(t, 10)
		d.Fail(n)
		ok(t, d.Create("a"), d.Sync("a"), d.SyncDir())
	}
	for n := 1; n < 6; n++ {
		d := made(t, 10)
		d.Fail(n)
		for i := 1; i < 10; i++ {
			e := d.Create("A") // a call that answers an error counts too
			if want := api.ErrDiskName; i != n && e != want || i == n && e != api.ErrDiskIO {
				t.Errorf("P1.5: Fail(%d), call %d: %d", n, i, e)
			}
			reads(t, d, "a") // and one that reads doesn't
		}
	}
	d := made(t, 10)
	ok(t, d.Create("a"))
	d.Fail(1)
	d.Fail(3)
	ok(t, d.Append("a", []byte("1")), d.Append("a", []byte("2")))
	want(t, "P1.5: a later Fail", d.Append("a", []byte("3")), api.ErrDiskIO)
	d.Fail(1)
	d.Fail(0)
	ok(t, d.Append("a", []byte("4")))
	d.Fail(1)
	if got := reads(t, d, "a"); slices.Max(got) != api.OK {
		t.Errorf("P1.5: reads: %v", got)
	}
	holds(t, "P1.5", d, `error 0 used 3 a="124"`)
}

func TestFailAtEachCall(t *testing.T) {
	for name := range changing(nil) {
		d := made(t, 10)
		ok(t, d.Create("a"), d.Append("a", []byte("1")))
		before := told(d)
		d.Fail(1)
		want(t, "P1.5: "+name, changing(d)[name](), api.ErrDiskIO)
		holds(t, "P1.2: "+name, d, before)
		d.Restart(api.Crash{Names: 99})
		holds(t, "P1.2: pending behind "+name, d, `error 0 used 0 a=""`)
	}
	for name := range changing(nil) {
		d := made(t, 10)
		ok(t, d.Create("a"), d.Append("a", []byte("1")))
		d.Fail(1)
		want(t, "P1.5: "+name, changing(d)[name](), api.ErrDiskIO)
		ok(t, changing(d)[name]())
	}
}

func TestHalt(t *testing.T) {
	for _, n := range []int{-1, math.MinInt, math.MaxInt} {
		d := made(t, 10)
		d.Halt(n)
		ok(t, d.Create("a"), d.Sync("a"), d.SyncDir())
	}
	for n := range 5 {
		d := made(t, 10)
		ok(t, d.Create("a"), d.Append("a", []byte("1")))
		d.Halt(n)
		for i := range 8 {
			if got := reads(t, d, "a"); i <= n && slices.Max(got) != api.OK || i > n && slices.Min(got) != api.ErrDiskDown {
				t.Errorf("P1.6: Halt(%d), reads ahead of call %d: %v", n, i, got)
			}
			e := d.Create("A") // a call that answers an error counts too
			if i < n && e != api.ErrDiskName || i >= n && e != api.ErrDiskDown {
				t.Errorf("P1.6: Halt(%d), call %d: %d", n, i, e)
			}
		}
		_, e := d.Read("A")
		want(t, "P1.2: Read of no name", e, api.ErrDiskDown)
		_, e = d.ReadAt("none", -1, -1)
		want(t, "P1.2: ReadAt of no file", e, api.ErrDiskDown)
		if d.Used() != 1 {
			t.Errorf("P1.6: Used: %d", d.Used())
		}
	}
	d := made(t, 10)
	d.Halt(0)
	d.Halt(1)
	ok(t, d.Create("a"))
	d.Halt(-1)
	ok(t, d.Create("b"))
	d.Halt(1)
	d.Halt(0)
	d.Fail(1)
	want(t, "P1.2, P1.6: down, ahead of failing", d.Create("c"), api.ErrDiskDown)
	d.Halt(-1)
	want(t, "P1.6: power that has fallen", d.Create("c"), api.ErrDiskDown)
	d.Restart(api.Crash{Names: 9})
	ok(t, d.Create("c"))
	holds(t, "P1.6", d, `error 0 used 0 a="" b="" c=""`)
}

func TestHaltAtEachCall(t *testing.T) {
	for name := range changing(nil) {
		d := made(t, 10)
		ok(t, d.Create("a"), d.Append("a", []byte("1")), d.SyncDir(), d.Sync("a"), d.Append("a", []byte("2")), d.Create("pending"))
		d.Halt(0)
		want(t, "P1.6: "+name, changing(d)[name](), api.ErrDiskDown)
		want(t, "P1.6: "+name+" again", changing(d)[name](), api.ErrDiskDown)
		d.Restart(api.Crash{})
		holds(t, "P1.6: "+name+" does nothing", d, `error 0 used 1 a="1"`)
	}
}

// pending: sure is a="sure" (number 0), b="b" (1); pending are of a a write, a truncate, a write, of b a write of 2 bytes, one within, and the names c (2), d, without b, a over d.
func pending(t *testing.T) *disk.Disk {
	t.Helper()
	d := made(t, 100)
	ok(t, d.Create("a"), d.Create("b"), d.Append("a", []byte("sure")), d.Append("b", []byte("b")), d.Sync("a"), d.Sync("b"), d.SyncDir())
	ok(t, d.Append("a", []byte("+++")), d.Truncate("a", 2), d.WriteAt("a", 1, []byte("xyz")))
	ok(t, d.Append("b", []byte("12")), d.WriteAt("b", 0, []byte("BCDE")))
	ok(t, d.Append("a", nil), d.WriteAt("a", 0, nil), d.Truncate("a", 4), d.Rename("a", "a")) // what changes nothing isn't pending
	ok(t, d.Create("c"), d.Append("c", []byte("c")), d.Rename("c", "d"), d.Remove("b"), d.Rename("a", "d"))
	holds(t, "seen", d, `error 0 used 4 d="sxyz"`)
	return d
}

func TestRestartNames(t *testing.T) {
	for n, w := range map[int]string{
		math.MinInt: `error 0 used 5 a="sure" b="b"`,
		-1:          `error 0 used 5 a="sure" b="b"`,
		0:           `error 0 used 5 a="sure" b="b"`,
		1:           `error 0 used 6 a="sure" b="b" c="c"`,
		2:           `error 0 used 6 a="sure" b="b" d="c"`,
		3:           `error 0 used 5 a="sure" d="c"`,
		4:           `error 0 used 4 d="sure"`,
		5:           `error 0 used 4 d="sure"`,
		math.MaxInt: `error 0 used 4 d="sure"`,
	} {
		d := pending(t)
		d.Restart(api.Crash{Names: n, Bytes: []int{0, 0, 1}})
		holds(t, fmt.Sprint("P1.7: Names ", n), d, w)
		d.Restart(api.Crash{Names: 99, Bytes: []int{99, 99, 99}})
		holds(t, fmt.Sprint("P1.7: all is sure behind Names ", n), d, w)
	}
}

func TestRestartBytes(t *testing.T) {
	for i, c := range []struct {
		bytes []int
		want  string
	}{
		{nil, `error 0 used 5 a="sure" b="b"`},
		{[]int{0}, `error 0 used 5 a="sure" b="b"`},
		{[]int{-1, math.MinInt}, `error 0 used 5 a="sure" b="b"`},
		{[]int{1}, `error 0 used 6 a="sure+" b="b"`},
		{[]int{2, 1}, `error 0 used 8 a="sure++" b="b1"`},
		{[]int{3, 2}, `error 0 used 10 a="sure+++" b="b12"`},
		{[]int{4, 3}, `error 0 used 5 a="su" b="B12"`},
		{[]int{5, 4}, `error 0 used 5 a="sx" b="BC2"`},
		{[]int{6, 5}, `error 0 used 6 a="sxy" b="BCD"`},
		{[]int{7, 6}, `error 0 used 8 a="sxyz" b="BCDE"`},
		{[]int{8, 7}, `error 0 used 8 a="sxyz" b="BCDE"`},
		{[]int{math.MaxInt, math.MaxInt, math.MaxInt, math.MaxInt}, `error 0 used 8 a="sxyz" b="BCDE"`},
	} {
		d := pending(t)
		d.Restart(api.Crash{Bytes: c.bytes})
		holds(t, fmt.Sprint("P1.7: row ", i), d, c.want)
		d.Restart(api.Crash{})
		holds(t, fmt.Sprint("P1.7: all is sure: row ", i), d, c.want)
	}
}

func TestRestartTruncate(t *testing.T) {
	for n, w := range map[int]string{0: "12", 1: "", 2: "3", 3: "34", 4: "", 5: "5"} {
		d := made(t, 10)
		ok(t, d.Create("a"), d.Append("a", []byte("12")), d.Sync("a"), d.SyncDir())
		ok(t, d.Truncate("a", 0), d.Append("a", []byte("34")), d.Truncate("a", 0), d.Append("a", []byte("5")))
		d.Restart(api.Crash{Bytes: []int{n}})
		if b, e := d.Read("a"); string(b) != w || e != api.OK {
			t.Errorf("P1.7: %d bytes to spend: %q, want %q", n, b, w)
		}
	}
}

func TestRestartFaults(t *testing.T) {
	d := made(t, 10)
	ok(t, d.Create("a"))
	d.Fail(1)
	d.Halt(0)
	d.Restart(api.Crash{Names: 1})
	ok(t, d.Append("a", []byte("1")), d.Append("a", []byte("2")), d.SyncDir())
	d.Halt(1)
	d.Fail(9)
	d.Sync("a")
	want(t, "P1.6", d.Sync("a"), api.ErrDiskDown)
	d.Restart(api.Crash{})
	for range 20 {
		ok(t, d.Sync("a"))
	}
	holds(t, "P1.7: power stays", d, `error 0 used 2 a="12"`)
}

func TestRestartNumbers(t *testing.T) {
	d := made(t, 10)
	ok(t, d.Create("a"), d.Create("b"))
	want(t, "no file is made", d.Create("a"), api.ErrDiskThere)
	d.Restart(api.Crash{})
	holds(t, "P1.7: the chapter's example", d, "error 0 used 0")
	ok(t, d.Create("c"), d.SyncDir(), d.Append("c", []byte("123")))
	d.Restart(api.Crash{Bytes: []int{9, 9, 2}})
	holds(t, "P1.7: files' numbers go on", d, `error 0 used 2 c="12"`)
	ok(t, d.Create("d"), d.Rename("d", "e"), d.Rename("c", "d"), d.SyncDir(), d.Append("d", []byte("c")), d.Append("e", []byte("d")))
	d.Restart(api.Crash{Bytes: []int{0, 0, 1}})
	holds(t, "a number stays under another name", d, `error 0 used 3 d="12c" e=""`)
}

func TestRestartAboveCapacity(t *testing.T) {
	d := made(t, 4)
	ok(t, d.Create("a"), d.Create("b"), d.Append("a", []byte("1234")), d.Sync("a"), d.SyncDir())
	ok(t, d.Truncate("a", 0), d.Append("b", []byte("5678")), d.Sync("b"))
	d.Restart(api.Crash{})
	holds(t, "P1.7: what was truncated is there again", d, `error 0 used 8 a="1234" b="5678"`)
	ok(t, d.Append("a", nil), d.WriteAt("a", 2, []byte("xx")), d.WriteAt("a", 4, nil), d.Truncate("b", 3))
	want(t, "P1.3: longer, and above the capacity", d.WriteAt("b", 2, []byte("xx")), api.ErrDiskFull)
	holds(t, "P1.3: not longer", d, `error 0 used 7 a="12xx" b="567"`)
}

func TestSync(t *testing.T) {
	d := made(t, 100)
	ok(t, d.Create("a"), d.Append("a", []byte("12")), d.Sync("a"))
	d.Restart(api.Crash{})
	holds(t, "P1.4: Sync doesn't make a name sure", d, "error 0 used 0")
	ok(t, d.Create("a"), d.Append("a", []byte("12")), d.SyncDir())
	d.Restart(api.Crash{})
	holds(t, "P1.4: SyncDir doesn't make bytes sure", d, `error 0 used 0 a=""`)
	ok(t, d.Create("b"), d.Append("a", []byte("12")), d.Append("b", []byte("34")), d.Sync("a"), d.SyncDir())
	d.Restart(api.Crash{})
	holds(t, "P1.4: Sync is of one file", d, `error 0 used 2 a="12" b=""`)
	ok(t, d.Append("a", []byte("34")), d.Create("c"), d.Append("c", []byte("5")), d.Sync("c"), d.Rename("c", "a"))
	d.Restart(api.Crash{})
	holds(t, "P1.4: Rename over a file, Names 0", d, `error 0 used 2 a="12" b=""`)
	ok(t, d.Create("c"), d.Append("c", []byte("5")), d.Sync("c"), d.Append("c", []byte("6")), d.Rename("c", "a"), d.SyncDir())
	d.Restart(api.Crash{})
	holds(t, "P1.4: Rename, SyncDir", d, `error 0 used 1 a="5" b=""`)
	ok(t, d.Remove("b"))
	d.Restart(api.Crash{})
	holds(t, "P1.4: Remove is pending", d, `error 0 used 1 a="5" b=""`)
	ok(t, d.Remove("b"), d.SyncDir())
	d.Restart(api.Crash{})
	holds(t, "P1.4: Remove is sure", d, `error 0 used 1 a="5"`)
}

func TestExamples(t *testing.T) {
	d := made(t, 100)
	ok(t, d.Create("a"), d.SyncDir(), d.Append("a", []byte{1, 2, 3}))
	d.Restart(api.Crash{Names: 0, Bytes: []int{2}})
	holds(t, "P1.7", d, `error 0 used 2 a="\x01\x02"`)
	ok(t, d.Create("b"), d.SyncDir(), d.Rename("b", "a"))
	d.Restart(api.Crash{Names: 0})
	holds(t, "P1.7", d, `error 0 used 2 a="\x01\x02" b=""`)
}
