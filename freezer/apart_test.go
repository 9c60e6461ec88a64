package freezer_test

import (
	"bytes"
	"errors"
	"testing"

	"moraine/api"
	"moraine/freezer"
)

// TestHandedIn: that what is handed in stays as it is, its spare room too, and may be changed behind the call.
func TestHandedIn(t *testing.T) {
	tables := append(make([]string, 0, 9), "head", "body")
	d := newDisk(t, 1<<20)
	f := openedWith(t, d, tables, 40)
	if spare := tables[:cap(tables)]; spare[0] != "head" || spare[1] != "body" || spare[2] != "" {
		t.Errorf("rule 3: %q", spare)
	}
	tables[0], tables[1] = "x", "x"
	room := bytes.Repeat([]byte("-"), 40)
	for n := range 10 {
		copy(room, "onetwo")
		values := append(make([][]byte, 0, 5), room[:3], room[3:6])
		if err := f.Append(n, values); err != nil {
			t.Fatal(err)
		}
		if len(values) != 2 || values[:3][2] != nil || string(room) != "onetwo----------------------------------" {
			t.Errorf("rule 3: %q", room)
		}
		copy(room, "??????")
		values[0] = nil
	}
	for range 2 {
		for n := range 10 {
			a, _ := f.Get(0, n)
			b, _ := f.Get(1, n)
			if string(a) != "one" || string(b) != "two" {
				t.Errorf("rule 3: %q, %q", a, b)
			}
		}
		f = openedWith(t, d, names(), 40)
	}
}

// TestAnswered: that what is told may be changed, of a freezer that lives and of one that keeps what a call that failed took from the disk.
func TestAnswered(t *testing.T) {
	for _, what := range []string{"sync", "head", "tail"} {
		for call, failed := 1, true; failed; call++ {
			d, f, m := filled(t, 0, 12, 30)
			d.Fail(call)
			x := deed{what: what, n: 5}
			if failed = x.do(f) != nil; !failed {
				m.done(x)
			}
			for range 2 {
				scribble(t, f, m)
			}
			agree(t, f, m)
		}
	}
}

// scribble changes each value that a freezer tells, and its spare room.
func scribble(t *testing.T, f *freezer.Freezer, m *model) {
	t.Helper()
	for n, values := range m.items {
		for i, want := range values {
			b, err := f.Get(i, n)
			if string(b) != want || err != nil {
				t.Fatalf("P12.6: Get(%d, %d): %q, %v", i, n, b, err)
			}
			b = b[:cap(b)]
			for k := range b {
				b[k] = '?'
			}
		}
	}
}

// TestErrorsApart: that a fault that was told may be changed.
func TestErrorsApart(t *testing.T) {
	_, f, _ := filled(t, 0, 2, 30)
	f.Close()
	for range 2 {
		for _, err := range []error{f.Sync(), f.Close(), f.Append(0, nil), f.TruncateHead(0), f.TruncateTail(0)} {
			if !is(err, api.ErrFreezerClosed) {
				t.Errorf("P12.3: %v", err)
			}
			var x *api.Fault
			if errors.As(err, &x) {
				x.Op, x.Err = "?", api.ErrDiskIO
			}
		}
	}
	if _, err := freezer.Open(newDisk(t, 1), nil); !is(err, api.ErrFreezerTables) {
		t.Errorf("P12.1: %v", err)
	}
}
