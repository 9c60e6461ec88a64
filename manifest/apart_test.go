package manifest_test

import (
	"fmt"
	"math/rand"
	"slices"
	"strings"
	"testing"

	"moraine/api"
	"moraine/manifest"
)

// spoilt: every byte changed, those of the spare room too.
func spoilt(b []byte) {
	b = b[:cap(b)]
	for i := range b {
		b[i] ^= 0x5A
	}
}

// stretched: all that a list has, its spare room too.
func stretched[T any](l []T) []T { return l[:cap(l)] }

// filesOf: a version's tables, those of the spare room too.
func filesOf(v api.Version) []api.File {
	var l []api.File
	for _, files := range v.Levels {
		l = append(l, stretched(files)...)
	}
	return l
}

// addsOf: an edit's tables, those of the spare room too.
func addsOf(e api.Edit) []api.File {
	var l []api.File
	for _, p := range stretched(e.Add) {
		l = append(l, p.File)
	}
	return l
}

func keysOf(files []api.File) [][]byte {
	var l [][]byte
	for _, f := range files {
		l = append(l, f.Least, f.Most)
	}
	return l
}

// allOf: all that hangs on a version and an edit, spare room included.
func allOf(v api.Version, e api.Edit) string {
	var all strings.Builder
	for _, files := range v.Levels {
		fmt.Fprint(&all, stretched(files), len(files))
	}
	fmt.Fprint(&all, v, e, stretched(e.Drop), stretched(e.Add))
	for _, k := range append(keysOf(filesOf(v)), keysOf(addsOf(e))...) {
		fmt.Fprint(&all, stretched(k))
	}
	return all.String()
}

func roomyKey(k []byte) []byte {
	return append(slices.Clone(k), "spare room"...)[:len(k)]
}

func roomyFile(f api.File) api.File {
	f.Least, f.Most = roomyKey(f.Least), roomyKey(f.Most)
	return f
}

// roomyVersion: a copy all of whose lists have spare room with something in it.
func roomyVersion(v api.Version) api.Version {
	for level, files := range v.Levels {
		var l []api.File
		for _, f := range files {
			l = append(l, roomyFile(f))
		}
		v.Levels[level] = append(l, roomyFile(file(77, "s", "t")), roomyFile(file(78, "u", "v")))[:len(l)]
	}
	return v
}

// roomyEdit: likewise.
func roomyEdit(e api.Edit) api.Edit {
	e.Drop = append(slices.Clone(e.Drop), gone(1, 79), gone(2, 80))[:len(e.Drop)]
	var l []api.Placed
	for _, p := range e.Add {
		l = append(l, placed(p.Level, roomyFile(p.File)))
	}
	e.Add = append(l, placed(3, roomyFile(file(81, "w", "x"))))[:len(l)]
	return e
}

// spoilVersion: changes all that hangs on a version.
func spoilVersion(v api.Version) {
	for _, k := range keysOf(filesOf(v)) {
		spoilt(k)
	}
	for _, files := range v.Levels {
		for i := range stretched(files) {
			stretched(files)[i] = file(99, "hurt", "hurt")
		}
	}
}

// spoilEdit: likewise.
func spoilEdit(e api.Edit) {
	for _, k := range keysOf(addsOf(e)) {
		spoilt(k)
	}
	for i := range stretched(e.Drop) {
		stretched(e.Drop)[i] = gone(3, 99)
	}
	for i := range stretched(e.Add) {
		stretched(e.Add)[i] = placed(3, file(99, "hurt", "hurt"))
	}
}

// apart: that no key of an answer is touched by what is done with another one, spare room included.
func apart(t *testing.T, what string, keys [][]byte) {
	t.Helper()
	was := make([]string, len(keys))
	for i, b := range keys {
		was[i] = string(stretched(b))
	}
	for i := range keys {
		spoilt(keys[i])
		for k, b := range keys {
			if i != k && string(stretched(b)) != was[k] {
				t.Fatalf("%s: two lists of an answer share memory", what)
			}
		}
		spoilt(keys[i])
	}
}

func TestNothingHandedInIsChanged(t *testing.T) {
	r := rand.New(rand.NewSource(10))
	for range 2000 {
		v := drawnVersion(r)
		e := drawnGood(r, v)
		if r.Intn(3) == 0 {
			e = hurtEdit(r, e)
		}
		if r.Intn(6) == 0 {
			v = hurtVersion(r, v)
		}
		v, e = roomyVersion(v), roomyEdit(e)
		was := allOf(v, e)
		manifest.Check(v)
		manifest.Whole(v)
		manifest.Encode(e)
		manifest.Apply(v, e)
		if allOf(v, e) != was {
			t.Fatalf("P9.1, P9.2, P9.3: what was handed in is changed")
		}
		b, _ := encodeByWords(drawnGood(r, drawnVersion(r)))
		log, _ := logOf(b)
		for _, l := range [][]byte{roomyKey([]byte(b)), roomyKey(log)} {
			was := string(stretched(l))
			manifest.Decode(l)
			manifest.Replay(l)
			if string(stretched(l)) != was {
				t.Fatalf("P9.1, P9.4: what was handed in is changed")
			}
		}
	}
}

// TestNothingIsKept: what is handed in may be changed behind the call, and what is told too.
func TestNothingIsKept(t *testing.T) {
	r := rand.New(rand.NewSource(11))
	for range 1000 {
		records, versions := drawnRow(r, 1+r.Intn(6))
		v := versions[len(versions)-1]
		e := drawnGood(r, v)
		want, wrong := applyByWords(v, e)
		if wrong != api.OK {
			continue
		}
		bytes, _ := encodeByWords(e)
		whole, _ := wholeByWords(v)
		log, _ := logOf(records...)
		for range 2 { // the second time behind what was done with the first answers
			v2, e2, b2, log2 := roomyVersion(v), roomyEdit(e), roomyKey([]byte(bytes)), roomyKey(log)
			w, _ := manifest.Apply(v2, e2)
			x, _ := manifest.Whole(v2)
			b, _ := manifest.Encode(e2)
			y, _ := manifest.Decode(b2)
			z, _, _, _ := manifest.Replay(log2)
			spoilVersion(v2)
			spoilEdit(e2)
			spoilt(b2)
			spoilt(log2)
			if !same(w, want) || !same(x, whole) || string(b) != bytes || !same(y, e) || !same(z, v) {
				t.Fatalf("P9.5: what is told hangs on what was handed in")
			}
			apart(t, "P9.3", append(append(keysOf(filesOf(w)), keysOf(addsOf(x))...), b))
			apart(t, "P9.1, P9.4", append(keysOf(addsOf(y)), keysOf(filesOf(z))...))
			spoilVersion(w)
			if !same(x, whole) || string(b) != bytes || !same(y, e) || !same(z, v) {
				t.Fatalf("P9.3: answers share memory")
			}
			spoilEdit(x)
			spoilEdit(y)
			if string(b) != bytes || !same(z, v) {
				t.Fatalf("P9.1, P9.3: answers share memory")
			}
			spoilVersion(z)
			spoilt(b)
		}
	}
}

// TestOneTableInManyPlaces: where one list is handed in several times, what is told has several.
func TestOneTableInManyPlaces(t *testing.T) {
	k := roomyKey(key("a", 1, api.Set))
	f := api.File{Least: k, Most: k}
	e := api.Edit{Next: 9}
	for level := range 5 {
		f.Number = level
		e.Add = append(e.Add, placed(level, f))
	}
	v, _ := applied(t, "one list", api.Version{}, e)
	apart(t, "P9.3", append(keysOf(filesOf(v)), k))
	one := api.Version{Next: 9}
	for level := range 5 {
		f.Number = level
		one.Levels[level] = []api.File{f}
	}
	x, wrong := manifest.Whole(one)
	if wrong != api.OK {
		t.Fatalf("P9.3: %d", wrong)
	}
	apart(t, "P9.3", append(keysOf(addsOf(x)), k))
	w, _ := applied(t, "one list", one, api.Edit{Next: 9})
	apart(t, "P9.3", append(keysOf(filesOf(w)), k))
}

// TestNilAndEmpty: a list without anything is the same, however it is told.
func TestNilAndEmpty(t *testing.T) {
	v, e := some(), onward(nil)
	v.Levels[2], v.Levels[4] = []api.File{}, make([]api.File, 0, 3)
	e.Drop, e.Add = []api.Gone{}, make([]api.Placed, 0, 3)
	if wrong := checked(t, "empty", v); wrong != api.OK {
		t.Errorf("P9.2: %d", wrong)
	}
	if b, wrong := encoded(t, "empty", e); b != "\x04\x14\x64\x00\x00" || wrong != api.OK {
		t.Errorf("P9.1: %x, %d", b, wrong)
	}
	if w, wrong := applied(t, "empty", v, e); !same(w, some()) || wrong != api.OK {
		t.Errorf("P9.3: %v, %d", w, wrong)
	}
}
