package compact_test

import (
	"bytes"
	"fmt"
	"math/rand"
	"slices"
	"strings"
	"testing"

	"moraine/api"
	"moraine/compact"
)

// stretched: all that a list has, its spare room too.
func stretched[T any](l []T) []T { return l[:cap(l)] }

// spoilt: every byte changed, those of the spare room too.
func spoilt(b []byte) {
	for i := range stretched(b) {
		stretched(b)[i] ^= 0x5A
	}
}

// handed: all that a call is given, each list with something in its spare room.
type handed struct {
	v      api.Version
	after  []byte
	lists  [][]api.KV
	deeper []api.Span
	user   []byte
}

func roomy(b []byte) []byte { return append(slices.Clone(b), "spare room"...)[:len(b)] }

func roomyFiles(files []api.File) []api.File {
	l := slices.Clone(files)
	l = append(l, file(77, 1, "s", "t"), file(78, 1, "u", "v"))
	for i, f := range l {
		l[i].Least, l[i].Most = roomy(f.Least), roomy(f.Most)
	}
	return l[:len(files)]
}

func roomyEntries(entries []api.KV) []api.KV {
	l := slices.Clone(entries)
	l = append(l, set("spare", 1), set("room", 2))
	for i, x := range l {
		l[i] = api.KV{Key: roomy(x.Key), Value: roomy(x.Value)}
	}
	return l[:len(entries)]
}

// roomyHanded: a copy all of whose lists have spare room with something in it.
func roomyHanded(h handed) handed {
	for level, files := range h.v.Levels {
		h.v.Levels[level] = roomyFiles(files)
	}
	lists := append(slices.Clone(h.lists), list(set("spare", 1)), list(set("room", 1)))
	for i, l := range lists {
		lists[i] = roomyEntries(l)
	}
	deeper := append(slices.Clone(h.deeper), span("spare", "room"), span("room", "spare"))
	for i, s := range deeper {
		deeper[i] = api.Span{Least: roomy(s.Least), Most: roomy(s.Most)}
	}
	return handed{h.v, roomy(h.after), lists[:len(h.lists)], deeper[:len(h.deeper)], roomy(h.user)}
}

func bytesOfFiles(files []api.File) [][]byte {
	var l [][]byte
	for _, f := range stretched(files) {
		l = append(l, f.Least, f.Most)
	}
	return l
}

func bytesOfEntries(entries []api.KV) [][]byte {
	var l [][]byte
	for _, x := range stretched(entries) {
		l = append(l, x.Key, x.Value)
	}
	return l
}

func bytesOfSpans(spans []api.Span) [][]byte {
	var l [][]byte
	for _, s := range stretched(spans) {
		l = append(l, s.Least, s.Most)
	}
	return l
}

// bytesOf: all lists of bytes that hang on what is handed in.
func bytesOf(h handed) [][]byte {
	l := append(bytesOfSpans(h.deeper), h.after, h.user)
	for _, files := range h.v.Levels {
		l = append(l, bytesOfFiles(files)...)
	}
	for _, entries := range stretched(h.lists) {
		l = append(l, bytesOfEntries(entries)...)
	}
	return l
}

// wholeOf: all that is handed in as a text, spare room included.
func wholeOf(h handed) string {
	var all strings.Builder
	fmt.Fprint(&all, h)
	for _, files := range h.v.Levels {
		fmt.Fprint(&all, stretched(files))
	}
	for _, l := range stretched(h.lists) {
		fmt.Fprint(&all, stretched(l))
	}
	fmt.Fprint(&all, stretched(h.deeper))
	for _, b := range bytesOf(h) {
		fmt.Fprint(&all, stretched(b))
	}
	return all.String()
}

// spoil: changes all that is handed in.
func spoil(h handed) {
	for _, b := range bytesOf(h) {
		spoilt(b)
	}
	for _, files := range h.v.Levels {
		for i := range stretched(files) {
			stretched(files)[i] = file(99, 9, "hurt", "hurt")
		}
	}
	for i, l := range stretched(h.lists) {
		for k := range stretched(l) {
			stretched(l)[k] = set("hurt", 9)
		}
		stretched(h.lists)[i] = nil
	}
	for i := range stretched(h.deeper) {
		stretched(h.deeper)[i] = span("hurt", "hurt")
	}
}

func drawnHanded(r *rand.Rand) handed {
	h := handed{drawnVersion(r), drawnKey(r), drawnLists(r, 1), drawnSpans(r), []byte(drawnUser(r))}
	if r.Intn(6) == 0 {
		h.v = hurtVersion(r, h.v)
	}
	if r.Intn(6) == 0 {
		h.lists = hurtLists(r, h.lists)
	}
	return h
}

// answers: of all calls.
type answers struct {
	task   api.Task
	spans  []api.Span
	merged []api.KV
	pieces [][]api.KV
	value  []byte
}

// calls: all calls with one handed, by some level, number and size.
func calls(h handed, level int, oldest uint64, size int) answers {
	var a answers
	compact.Score(h.v, api.Sizes{Tables0: 2, Bytes1: 100, Factor: 3})
	a.task, _, _ = compact.Pick(h.v, level, h.after)
	a.spans, _ = compact.Deeper(h.v, level)
	a.merged, _ = compact.Merge(h.lists, oldest, h.deeper)
	for i, l := range h.lists {
		pieces, _ := compact.Cut(l, size)
		value, ok := compact.View(l, h.user, oldest)
		if i == 0 || ok && len(value) > 0 {
			a.pieces, a.value = pieces, value
		}
	}
	return a
}

// bytesOfAnswers: all lists of bytes that were told.
func bytesOfAnswers(a answers) [][]byte {
	l := slices.Concat(bytesOfFiles(a.task.Upper), bytesOfFiles(a.task.Lower), bytesOfSpans(a.spans), bytesOfEntries(a.merged), [][]byte{a.value})
	for _, p := range stretched(a.pieces) {
		l = append(l, bytesOfEntries(p)...)
	}
	return l
}

// apart: that no list of an answer is touched by what is done with another one, spare room included.
func apart(t *testing.T, a answers) {
	t.Helper()
	all := bytesOfAnswers(a)
	was := make([][]byte, len(all))
	for i, b := range all {
		was[i] = slices.Clone(stretched(b))
	}
	for i := range all {
		spoilt(all[i])
		for k, b := range all {
			if i != k && !bytes.Equal(stretched(b), was[k]) {
				t.Fatalf("P10.2, P10.3, P10.4, P10.5: two lists of an answer share memory")
			}
		}
		spoilt(all[i])
	}
	lists := append(slices.Clone(a.pieces), a.merged)
	for i := range lists {
		text := fmt.Sprint(lists[i+1:])
		for k := range stretched(lists[i]) {
			stretched(lists[i])[k] = set("hurt", 9)
		}
		if fmt.Sprint(lists[i+1:]) != text {
			t.Fatalf("P10.3, P10.4: two lists of entries share memory")
		}
	}
	text := fmt.Sprint(a.task.Lower)
	for k := range stretched(a.task.Upper) {
		stretched(a.task.Upper)[k] = api.File{}
	}
	if fmt.Sprint(a.task.Lower) != text {
		t.Fatalf("P10.2: two lists of tables share memory")
	}
}

func TestNothingHandedInIsChanged(t *testing.T) {
	r := rand.New(rand.NewSource(9))
	for range 1500 {
		h := roomyHanded(drawnHanded(r))
		was := wholeOf(h)
		calls(h, r.Intn(6)-1, drawnOldest(r, 1), r.Intn(40))
		if wholeOf(h) != was {
			t.Fatalf("P10.1, P10.2, P10.3, P10.4, P10.5: what was handed in is changed")
		}
	}
}

// TestNothingIsKept: what is handed in may be changed behind the call, and what is told too.
func TestNothingIsKept(t *testing.T) {
	r := rand.New(rand.NewSource(10))
	for range 1500 {
		h := drawnHanded(r)
		level, oldest, size := r.Intn(6)-1, drawnOldest(r, 1), r.Intn(40)
		want := fmt.Sprint(calls(h, level, oldest, size))
		for range 2 { // the second time behind what was done with the first answers
			h := roomyHanded(h)
			a, b := calls(h, level, oldest, size), calls(h, level, oldest, size)
			spoil(h)
			if fmt.Sprint(a) != want {
				t.Fatalf("P10.2, P10.3, P10.4, P10.5: what is told hangs on what was handed in")
			}
			apart(t, a)
			for _, l := range bytesOfAnswers(a) {
				spoilt(l)
			}
			if fmt.Sprint(b) != want {
				t.Fatalf("P10.2, P10.3, P10.4, P10.5: answers share memory")
			}
		}
	}
}

// TestOneListInManyPlaces: where one list is handed in several times, what is told has several.
func TestOneListInManyPlaces(t *testing.T) {
	k := roomy(key("a", 1, api.Set))
	v := api.Version{Next: 9}
	for level := range 5 {
		v.Levels[level] = []api.File{{Number: level, Least: k, Most: k}}
	}
	for level := range 4 {
		task, ok, _ := picked(t, "one list", v, level, nil)
		spans, _ := deepened(t, "one list", v, level)
		if !ok || len(task.Lower) != 1 || len(spans) != 4-level {
			t.Errorf("P10.2, P10.4: %v, %v", task, spans)
		}
		apart(t, answers{task: task, spans: spans, value: k})
	}
	value := roomy([]byte("value"))
	l := list(api.KV{Key: k, Value: value}, api.KV{Key: key("b", 1, api.Set), Value: value}, api.KV{Key: key("c", 1, api.Set), Value: value})
	all, _ := merged(t, "one list", [][]api.KV{l[:1], l[1:2], l[2:]}, 0, nil)
	pieces, _ := cutUp(t, "one list", l, 20)
	seen, _ := compact.View(l, []byte("b"), 1)
	if len(all) != 3 || len(pieces) != 2 || string(seen) != "value" {
		t.Errorf("P10.3, P10.4, P10.5: %s, %s, %q", told(all), told(pieces...), seen)
	}
	apart(t, answers{merged: append(all, api.KV{Key: k, Value: value}), pieces: pieces, value: seen})
}

// TestNilAndEmpty: a list without anything is the same, however it is told.
func TestNilAndEmpty(t *testing.T) {
	v := some()
	v.Levels[3] = make([]api.File, 0, 3)
	if task, ok, wrong := picked(t, "empty", v, 3, []byte{}); !same(task, api.Task{}) || ok || wrong != api.OK {
		t.Errorf("P10.2: %v, %v, %d", task, ok, wrong)
	}
	l := list(api.KV{Key: key("", 2, api.Set), Value: []byte{}}, api.KV{Key: key("", 1, api.Set)})
	if got, wrong := merged(t, "empty", [][]api.KV{{}, l, make([]api.KV, 0, 3)}, 1, []api.Span{}); len(got) != 2 || wrong != api.OK {
		t.Errorf("P10.3: %s, %d", told(got), wrong)
	}
	for _, user := range [][]byte{nil, {}, make([]byte, 0, 3)} {
		for seq, want := range []bool{false, true, true} {
			if v, ok := compact.View(l, user, uint64(seq)); len(v) > 0 || ok != want {
				t.Errorf("P10.5: at %d: %q, %v", seq, v, ok)
			}
		}
	}
}
