package manifest_test

import (
	"bytes"
	"cmp"
	"encoding/binary"
	"fmt"
	"math/rand"
	"slices"
	"strings"
	"testing"

	"moraine/api"
	"moraine/manifest"
	"moraine/wal"
)

const most = 1<<31 - 1 // of a number

// key: an internal key, by chapter 2's words.
func key(user string, seq uint64, kind int) []byte {
	return binary.LittleEndian.AppendUint64([]byte(user), 256*seq+uint64(kind))
}

// internal: whether it is an internal key; its user key, and 256 times its sequence number and its kind.
func internal(k []byte) (string, uint64, bool) {
	n := len(k) - 8
	if n < 0 || n > 128 || k[n] > 1 {
		return "", 0, false
	}
	return string(k[:n]), binary.LittleEndian.Uint64(k[n:]), true
}

func userOf(k []byte) string {
	user, _, _ := internal(k)
	return user
}

// order: of two internal keys.
func order(a, b []byte) int {
	user, moment, _ := internal(a)
	user2, moment2, _ := internal(b)
	return cmp.Or(cmp.Compare(user, user2), cmp.Compare(moment2, moment))
}

// file: a table from the newest of a user key to the oldest of another one.
func file(number int, least, most string) api.File {
	return api.File{Number: number, Size: 100, Least: key(least, 9, api.Set), Most: key(most, 1, api.Delete)}
}

func placed(level int, f api.File) api.Placed { return api.Placed{Level: level, File: f} }

func number(n uint64) string { return string(binary.AppendUvarint(nil, n)) }

func isNumber(n int) bool { return n >= 0 && n <= 2147483647 }

func mayBe(f api.File) bool {
	_, _, ok := internal(f.Least)
	_, _, ok2 := internal(f.Most)
	return ok && ok2 && isNumber(f.Number) && isNumber(f.Size) && order(f.Most, f.Least) >= 0
}

func headMayBe(log, next int, seq uint64) bool {
	return isNumber(log) && isNumber(next) && seq < 1<<56
}

// part: a number of an edit's bytes, or a key.
type part struct {
	bytes string
	isKey bool
}

// partsOf: what an edit's bytes are made of, whether or not it has any.
func partsOf(e api.Edit) []part {
	var parts []part
	put := func(numbers ...int) {
		for _, n := range numbers {
			parts = append(parts, part{bytes: number(uint64(n))})
		}
	}
	put(e.Log, e.Next)
	parts = append(parts, part{bytes: number(e.Seq)})
	put(len(e.Drop))
	for _, g := range e.Drop {
		put(g.Level, g.Number)
	}
	put(len(e.Add))
	for _, p := range e.Add {
		put(p.Level, p.File.Number, p.File.Size, len(p.File.Least))
		parts = append(parts, part{string(p.File.Least), true})
		put(len(p.File.Most))
		parts = append(parts, part{string(p.File.Most), true})
	}
	return parts
}

func joined(parts []part) string {
	var b strings.Builder
	for _, p := range parts {
		b.WriteString(p.bytes)
	}
	return b.String()
}

// encodeByWords: what P9.1 says of Encode.
func encodeByWords(e api.Edit) (string, api.Errno) {
	ok := headMayBe(e.Log, e.Next, e.Seq)
	for _, g := range e.Drop {
		ok = ok && g.Level >= 0 && g.Level <= 4 && isNumber(g.Number)
	}
	for _, p := range e.Add {
		ok = ok && p.Level >= 0 && p.Level <= 4 && mayBe(p.File)
	}
	if !ok {
		return "", api.ErrManifestForm
	}
	return joined(partsOf(e)), api.OK
}

// loosely: the edit that bytes could be meant for, whether or not it has just these.
func loosely(b string) (api.Edit, bool) {
	ok := true
	take := func() uint64 {
		n, width := binary.Uvarint([]byte(b))
		if width <= 0 {
			ok = false
			return 0
		}
		b = b[width:]
		return n
	}
	takeKey := func() []byte {
		n := take()
		if !ok || n > uint64(len(b)) {
			ok = false
			return nil
		}
		k := []byte(b[:n])
		b = b[n:]
		return k
	}
	e := api.Edit{Log: int(take()), Next: int(take()), Seq: take()}
	for n := take(); ok && n > 0; n-- {
		e.Drop = append(e.Drop, api.Gone{Level: int(take()), Number: int(take())})
	}
	for n := take(); ok && n > 0; n-- {
		p := api.Placed{Level: int(take())}
		p.File = api.File{Number: int(take()), Size: int(take()), Least: takeKey(), Most: takeKey()}
		e.Add = append(e.Add, p)
	}
	return e, ok
}

// decodeByWords: what P9.1 says of Decode: an edit is told, if it has just these bytes.
func decodeByWords(b string) (api.Edit, api.Errno) {
	e, ok := loosely(b)
	if c, wrong := encodeByWords(e); !ok || wrong != api.OK || c != b {
		return api.Edit{}, api.ErrManifestForm
	}
	return e, api.OK
}

// overlap: by the chapter's words: the greater one of the two first user keys stands in both, if any does.
func overlap(a, b api.File) bool {
	k := max(userOf(a.Least), userOf(b.Least))
	return k <= userOf(a.Most) && k <= userOf(b.Most)
}

// checkByWords: what P9.2 says.
func checkByWords(v api.Version) api.Errno {
	form, twice, back, over := !headMayBe(v.Log, v.Next, v.Seq), false, false, false
	count := map[int]int{}
	for level, files := range v.Levels {
		for i, f := range files {
			form = form || !mayBe(f)
			count[f.Number]++
			twice = twice || count[f.Number] > 1
			back = back || f.Number >= v.Next
			for _, g := range files[:i] {
				if level == 0 {
					over = over || g.Number >= f.Number
				} else if mayBe(f) && mayBe(g) {
					over = over || order(g.Least, f.Least) >= 0 || overlap(f, g)
				}
			}
		}
	}
	for i, is := range []bool{form, twice, back, over} {
		if is {
			return []api.Errno{api.ErrManifestForm, api.ErrManifestTwice, api.ErrManifestBack, api.ErrManifestOver}[i]
		}
	}
	return api.OK
}

// applyByWords: what P9.3 says of Apply.
func applyByWords(v api.Version, e api.Edit) (api.Version, api.Errno) {
	if wrong := checkByWords(v); wrong != api.OK {
		return api.Version{}, wrong
	}
	if _, wrong := encodeByWords(e); wrong != api.OK {
		return api.Version{}, wrong
	}
	w := api.Version{Log: e.Log, Next: e.Next, Seq: e.Seq}
	for level := range w.Levels {
		w.Levels[level] = slices.Clone(v.Levels[level])
	}
	for _, g := range e.Drop {
		i := slices.IndexFunc(w.Levels[g.Level], func(f api.File) bool { return f.Number == g.Number })
		if i < 0 {
			return api.Version{}, api.ErrManifestNone
		}
		w.Levels[g.Level] = slices.Delete(w.Levels[g.Level], i, i+1)
	}
	if e.Log < v.Log || e.Next < v.Next || e.Seq < v.Seq {
		return api.Version{}, api.ErrManifestBack
	}
	for _, p := range e.Add {
		w.Levels[p.Level] = append(w.Levels[p.Level], p.File)
	}
	slices.SortFunc(w.Levels[0], func(a, b api.File) int { return cmp.Compare(a.Number, b.Number) })
	for _, files := range w.Levels[1:] {
		slices.SortFunc(files, func(a, b api.File) int { return order(a.Least, b.Least) })
	}
	if wrong := checkByWords(w); wrong != api.OK {
		return api.Version{}, wrong
	}
	return w, api.OK
}

// wholeByWords: what P9.3 says of Whole.
func wholeByWords(v api.Version) (api.Edit, api.Errno) {
	if wrong := checkByWords(v); wrong != api.OK {
		return api.Edit{}, wrong
	}
	e := api.Edit{Log: v.Log, Next: v.Next, Seq: v.Seq}
	for level, files := range v.Levels {
		for _, f := range files {
			e.Add = append(e.Add, placed(level, f))
		}
	}
	return e, api.OK
}

// replayByWords: what P9.4 says.
func replayByWords(log []byte) (api.Version, int, int, api.Errno) {
	records, end := wal.Read(log)
	var v api.Version
	for _, b := range records {
		e, wrong := decodeByWords(string(b))
		if wrong == api.OK {
			v, wrong = applyByWords(v, e)
		}
		if wrong != api.OK {
			return api.Version{}, 0, 0, wrong
		}
	}
	return v, len(records), end, api.OK
}

// same: whether two edits, or versions, are alike, a nil list and an empty one too.
func same(a, b any) bool { return fmt.Sprint(a) == fmt.Sprint(b) }

// encoded: Encode's answer, held against the words and against Decode.
func encoded(t *testing.T, what string, e api.Edit) (string, api.Errno) {
	t.Helper()
	b, wrong := manifest.Encode(e)
	if want, no := encodeByWords(e); string(b) != want || wrong != no {
		t.Errorf("P9.1: %s: Encode(%v): %x, %d, want %x, %d", what, e, b, wrong, want, no)
	}
	if wrong == api.OK {
		if again, no := decoded(t, what, string(b)); no != api.OK || !same(again, e) {
			t.Errorf("P9.5: %s: Decode of Encode(%v): %v, %d", what, e, again, no)
		}
	}
	return string(b), wrong
}

// decoded: Decode's answer, held against the words and against Encode.
func decoded(t *testing.T, what, b string) (api.Edit, api.Errno) {
	t.Helper()
	e, wrong := manifest.Decode([]byte(b))
	if want, no := decodeByWords(b); !same(e, want) || wrong != no {
		t.Errorf("P9.1: %s: Decode(%x): %v, %d, want %v, %d", what, b, e, wrong, want, no)
	}
	if wrong == api.OK {
		if again, no := manifest.Encode(e); no != api.OK || string(again) != b {
			t.Errorf("P9.5: %s: Encode of Decode(%x): %x, %d", what, b, again, no)
		}
	}
	return e, wrong
}

// undecoded: that bytes are no edit's.
func undecoded(t *testing.T, what, b string) {
	t.Helper()
	if _, wrong := decoded(t, what, b); wrong != api.ErrManifestForm {
		t.Errorf("P9.1: %s: Decode(%x): %d", what, b, wrong)
	}
}

// checked: Check's and Whole's answer, held against the words, and Apply of Whole.
func checked(t *testing.T, what string, v api.Version) api.Errno {
	t.Helper()
	want := checkByWords(v)
	if wrong := manifest.Check(v); wrong != want {
		t.Errorf("P9.2: %s: Check(%v): %d, want %d", what, v, wrong, want)
	}
	e, wrong := manifest.Whole(v)
	if edit, no := wholeByWords(v); !same(e, edit) || wrong != no {
		t.Errorf("P9.3: %s: Whole(%v): %v, %d, want %v, %d", what, v, e, wrong, edit, no)
	}
	if wrong == api.OK {
		if w, no := manifest.Apply(api.Version{}, e); !same(w, v) || no != api.OK {
			t.Errorf("P9.5: %s: Apply of Whole(%v): %v, %d", what, v, w, no)
		}
	}
	return want
}

// applied: Apply's answer, held against the words and against Check.
func applied(t *testing.T, what string, v api.Version, e api.Edit) (api.Version, api.Errno) {
	t.Helper()
	w, wrong := manifest.Apply(v, e)
	if want, no := applyByWords(v, e); !same(w, want) || wrong != no {
		t.Errorf("P9.3: %s: Apply(%v, %v): %v, %d, want %v, %d", what, v, e, w, wrong, want, no)
	}
	if no := manifest.Check(w); no != api.OK {
		t.Errorf("P9.5: %s: Check of Apply(%v, %v): %d", what, v, e, no)
	}
	return w, wrong
}

// replayed: Replay's answer, held against the words.
func replayed(t *testing.T, what string, log []byte) (api.Version, int, int, api.Errno) {
	t.Helper()
	v, n, size, wrong := manifest.Replay(log)
	v2, n2, size2, no := replayByWords(log)
	if !same(v, v2) || n != n2 || size != size2 || wrong != no {
		t.Errorf("P9.4: %s: Replay(%x): %v, %d, %d, %d, want %v, %d, %d, %d", what, log, v, n, size, wrong, v2, n2, size2, no)
	}
	return v, n, size, wrong
}

// logOf: records appended one behind the other, and where each ends.
func logOf(records ...string) ([]byte, []int) {
	var log []byte
	var ends []int
	for _, x := range records {
		b, _ := wal.Append(len(log), []byte(x))
		log = append(log, b...)
		ends = append(ends, len(log))
	}
	return log, ends
}

func drawnUser(r *rand.Rand) string {
	b := make([]byte, r.Intn(3))
	for i := range b {
		b[i] = "\x00abc\xff"[r.Intn(5)]
	}
	return string(b)
}

// drawnFile: one that may be.
func drawnFile(r *rand.Rand, number int) api.File {
	a := key(drawnUser(r), uint64(r.Intn(4)), r.Intn(2))
	b := key(drawnUser(r), uint64(r.Intn(4)), r.Intn(2))
	if r.Intn(3) == 0 { // a narrow one
		b = key(userOf(a), uint64(r.Intn(4)), r.Intn(2))
	}
	if order(a, b) > 0 {
		a, b = b, a
	}
	return api.File{Number: number, Size: r.Intn(1 << r.Intn(32)), Least: a, Most: b}
}

// drawnGood: an edit that can mostly be applied to v.
func drawnGood(r *rand.Rand, v api.Version) api.Edit {
	e := api.Edit{Log: v.Log + r.Intn(2), Next: v.Next, Seq: v.Seq + uint64(r.Intn(300))}
	for level, files := range v.Levels {
		for _, f := range files {
			if r.Intn(4) == 0 {
				e.Drop = append(e.Drop, api.Gone{Level: level, Number: f.Number})
				if r.Intn(6) == 0 {
					e.Add = append(e.Add, placed(r.Intn(5), f))
				}
			}
		}
	}
	for range r.Intn(3) {
		e.Add = append(e.Add, placed(r.Intn(5), drawnFile(r, e.Next)))
		e.Next += 1 + r.Intn(3)
	}
	r.Shuffle(len(e.Drop), func(i, j int) { e.Drop[i], e.Drop[j] = e.Drop[j], e.Drop[i] })
	r.Shuffle(len(e.Add), func(i, j int) { e.Add[i], e.Add[j] = e.Add[j], e.Add[i] })
	return e
}

// drawnVersion: one that may be, as edits made it.
func drawnVersion(r *rand.Rand) api.Version {
	var v api.Version
	for range r.Intn(12) {
		if w, wrong := applyByWords(v, drawnGood(r, v)); wrong == api.OK {
			v = w
		}
	}
	return v
}

// hurtFile: a table that may not be, or one that is like another one.
func hurtFile(r *rand.Rand, f api.File) api.File {
	switch r.Intn(10) {
	case 0:
		f.Number = []int{-1, 0, most, most + 1}[r.Intn(4)]
	case 1:
		f.Size = []int{-1, 0, most, most + 1}[r.Intn(4)]
	case 2:
		f.Least, f.Most = f.Most, f.Least
	case 3:
		f.Most = f.Least
	case 4:
		f.Least = f.Least[:len(f.Least)-1]
	case 5:
		f.Most = append(bytes.Repeat([]byte("z"), 121), f.Most...)
	default:
		f.Number = r.Intn(8)
	}
	return f
}

// hurtEdit: an edit with one thing changed, so that it often may not be, or can't be applied.
func hurtEdit(r *rand.Rand, e api.Edit) api.Edit {
	e.Drop, e.Add = slices.Clone(e.Drop), slices.Clone(e.Add)
	edges := []int{-1, 0, 1, most, most + 1}
	switch r.Intn(7) {
	case 0:
		e.Log = edges[r.Intn(5)]
	case 1:
		e.Next = edges[r.Intn(5)]
	case 2:
		e.Seq = []uint64{0, 1, api.MaxSeq, api.MaxSeq + 1, 1<<64 - 1}[r.Intn(5)]
	case 3:
		e.Drop = append(e.Drop, api.Gone{Level: r.Intn(7) - 1, Number: r.Intn(8) - 1})
	case 4:
		if len(e.Drop) > 0 {
			e.Drop = append(e.Drop, e.Drop[r.Intn(len(e.Drop))])
		}
	case 5:
		e.Add = append(e.Add, placed(r.Intn(7)-1, drawnFile(r, r.Intn(8))))
	case 6:
		if i := len(e.Add) - 1; i >= 0 {
			e.Add[i].File = hurtFile(r, e.Add[i].File)
		}
	}
	return e
}

// hurtVersion: a version with one thing changed, so that it often may not be.
func hurtVersion(r *rand.Rand, v api.Version) api.Version {
	edges := []int{-1, 0, 1, most, most + 1}
	level := r.Intn(5)
	files := slices.Clone(v.Levels[level])
	switch r.Intn(7) {
	case 0:
		v.Log = edges[r.Intn(5)]
	case 1:
		v.Next = edges[r.Intn(5)]
	case 2:
		v.Seq = []uint64{0, api.MaxSeq, api.MaxSeq + 1}[r.Intn(3)]
	case 3:
		files = append(files, drawnFile(r, r.Intn(12)))
	case 4:
		r.Shuffle(len(files), func(i, j int) { files[i], files[j] = files[j], files[i] })
	case 5:
		if n := len(files); n > 0 {
			files[r.Intn(n)] = hurtFile(r, files[r.Intn(n)])
		}
	case 6:
		files = append(files, v.Levels[r.Intn(5)]...)
	}
	v.Levels[level] = files
	return v
}
