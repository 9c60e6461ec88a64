package compact_test

import (
	"bytes"
	"cmp"
	"encoding/binary"
	"fmt"
	"math"
	"math/big"
	"math/rand"
	"slices"
	"testing"

	"moraine/api"
	"moraine/compact"
	"moraine/manifest"
)

const most = 1<<31 - 1 // of a number

// key: an internal key, by chapter 2's words.
func key(user string, seq uint64, kind int) []byte {
	return binary.LittleEndian.AppendUint64([]byte(user), 256*seq+uint64(kind))
}

// parts: of an internal key.
type parts struct {
	user string
	seq  uint64
	kind int
}

// split: the parts of an internal key, and whether it is one.
func split(k []byte) (parts, bool) {
	n := len(k) - 8
	if n < 0 || n > 128 || k[n] > 1 {
		return parts{}, false
	}
	m := binary.LittleEndian.Uint64(k[n:])
	return parts{string(k[:n]), m / 256, int(m % 256)}, true
}

func partsOf(k []byte) parts {
	p, _ := split(k)
	return p
}

// order: of two internal keys.
func order(a, b []byte) int {
	p, q := partsOf(a), partsOf(b)
	return cmp.Or(cmp.Compare(p.user, q.user), cmp.Compare(q.seq, p.seq), cmp.Compare(q.kind, p.kind))
}

// file: a table from the newest of a user key to the oldest of another one.
func file(number, size int, least, most string) api.File {
	return api.File{Number: number, Size: size, Least: key(least, 9, api.Set), Most: key(most, 1, api.Set)}
}

// set, del: entries.
func set(user string, seq uint64) api.KV {
	return api.KV{Key: key(user, seq, api.Set), Value: fmt.Append(nil, user, seq)}
}

func del(user string, seq uint64) api.KV { return api.KV{Key: key(user, seq, api.Delete)} }

func list(l ...api.KV) []api.KV { return l }

func span(least, most string) api.Span { return api.Span{Least: []byte(least), Most: []byte(most)} }

// same: whether two answers are alike, a nil list and an empty one too.
func same(a, b any) bool { return fmt.Sprint(a) == fmt.Sprint(b) }

// sizesByWords: what P10.1 says of Check.
func sizesByWords(s api.Sizes) api.Errno {
	if s.Tables0 < 1 || s.Tables0 > 64 || s.Bytes1 < 1 || s.Bytes1 > 1073741824 || s.Factor < 2 || s.Factor > 16 {
		return api.ErrCompactSizes
	}
	return api.OK
}

// scoreByWords: what P10.1 says of Score, by numbers of any size.
func scoreByWords(v api.Version, s api.Sizes) (int, bool, api.Errno) {
	if wrong := sizesByWords(s); wrong != api.OK {
		return 0, false, wrong
	}
	if wrong := manifest.Check(v); wrong != api.OK {
		return 0, false, wrong
	}
	fullest, load := 0, big.NewRat(int64(len(v.Levels[0])), int64(s.Tables0))
	for level := 1; level <= 3; level++ {
		sum, room := new(big.Int), big.NewInt(int64(s.Bytes1))
		for _, f := range v.Levels[level] {
			sum.Add(sum, big.NewInt(int64(f.Size)))
		}
		for range level - 1 {
			room.Mul(room, big.NewInt(int64(s.Factor)))
		}
		if l := new(big.Rat).SetFrac(sum, room); l.Cmp(load) > 0 {
			fullest, load = level, l
		}
	}
	if load.Cmp(big.NewRat(1, 1)) < 0 {
		return 0, false, api.OK
	}
	return fullest, true, api.OK
}

// pickByWords: what P10.2 says.
func pickByWords(v api.Version, level int, after []byte) (api.Task, bool, api.Errno) {
	if wrong := manifest.Check(v); wrong != api.OK {
		return api.Task{}, false, wrong
	}
	if level < 0 || level > 3 {
		return api.Task{}, false, api.ErrCompactLevel
	}
	files := v.Levels[level]
	if len(files) == 0 {
		return api.Task{}, false, api.OK
	}
	task := api.Task{Level: level, Upper: files}
	if level > 0 {
		task.Upper = files[:1]
		_, ok := split(after)
		for i := len(files) - 1; ok && i >= 0; i-- {
			if order(files[i].Most, after) > 0 {
				task.Upper = files[i : i+1]
			}
		}
	}
	var users []string
	for _, f := range task.Upper {
		users = append(users, partsOf(f.Least).user, partsOf(f.Most).user)
	}
	for _, f := range v.Levels[level+1] {
		// Two spans have a user key in common, if the greater one of their first ones is in both.
		common := max(slices.Min(users), partsOf(f.Least).user)
		if common <= slices.Max(users) && common <= partsOf(f.Most).user {
			task.Lower = append(task.Lower, f)
		}
	}
	return task, true, api.OK
}

// deeperByWords: what P10.4 says of Deeper.
func deeperByWords(v api.Version, level int) ([]api.Span, api.Errno) {
	if wrong := manifest.Check(v); wrong != api.OK {
		return nil, wrong
	}
	if level < 0 || level > 4 {
		return nil, api.ErrCompactLevel
	}
	var l []api.Span
	for k := level + 1; k < 5; k++ {
		for _, f := range v.Levels[k] {
			l = append(l, span(partsOf(f.Least).user, partsOf(f.Most).user))
		}
	}
	return l, api.OK
}

func risesByWords(l []api.KV) bool {
	for i, x := range l {
		if _, ok := split(x.Key); !ok || i > 0 && order(l[i-1].Key, x.Key) >= 0 {
			return false
		}
	}
	return true
}

// allOf: the entries of all lists in order; false, if a list doesn't rise, or two have one internal key.
func allOf(lists [][]api.KV) ([]api.KV, bool) {
	var all []api.KV
	for _, l := range lists {
		if !risesByWords(l) {
			return nil, false
		}
		all = append(all, l...)
	}
	slices.SortStableFunc(all, func(a, b api.KV) int { return order(a.Key, b.Key) })
	return all, risesByWords(all)
}

func inSpan(user string, spans []api.Span) bool {
	return slices.ContainsFunc(spans, func(s api.Span) bool { return string(s.Least) <= user && user <= string(s.Most) })
}

// mergeByWords: what P10.3 says.
func mergeByWords(lists [][]api.KV, oldest uint64, deeper []api.Span) ([]api.KV, api.Errno) {
	all, ok := allOf(lists)
	if !ok {
		return nil, api.ErrCompactOrder
	}
	var kept []api.KV
	for i, x := range all {
		p := partsOf(x.Key)
		follows := slices.ContainsFunc(all[:i], func(y api.KV) bool {
			q := partsOf(y.Key)
			return q.user == p.user && q.seq <= oldest
		})
		if !follows && (p.kind == api.Set || p.seq > oldest || inSpan(p.user, deeper)) {
			kept = append(kept, x)
		}
	}
	return kept, api.OK
}

// cutByWords: what P10.4 says of Cut.
func cutByWords(l []api.KV, size int) ([][]api.KV, api.Errno) {
	if !risesByWords(l) {
		return nil, api.ErrCompactOrder
	}
	if size < 1 {
		size = 1
	}
	var pieces [][]api.KV
	start, bytes := 0, 0
	for i, x := range l {
		if i > 0 && bytes >= size && partsOf(x.Key).user != partsOf(l[i-1].Key).user {
			pieces = append(pieces, l[start:i])
			start, bytes = i, 0
		}
		bytes += len(x.Key) + len(x.Value)
	}
	if len(l) > 0 {
		pieces = append(pieces, l[start:])
	}
	return pieces, api.OK
}

// viewByWords: what P10.5 says.
func viewByWords(l []api.KV, user []byte, seq uint64) (string, bool) {
	for _, x := range l {
		if p, ok := split(x.Key); ok && p.user == string(user) && p.seq <= seq {
			if p.kind == api.Set {
				return string(x.Value), true
			}
			return "", false
		}
	}
	return "", false
}

// scored: Score's and Check's answers, held against the words.
func scored(t *testing.T, what string, v api.Version, s api.Sizes) (int, bool, api.Errno) {
	t.Helper()
	if wrong := compact.Check(s); wrong != sizesByWords(s) {
		t.Errorf("P10.1: %s: Check(%v): %d", what, s, wrong)
	}
	level, ok, wrong := compact.Score(v, s)
	if level2, ok2, wrong2 := scoreByWords(v, s); level != level2 || ok != ok2 || wrong != wrong2 {
		t.Errorf("P10.1: %s: Score(%.200v, %v): %d, %v, %d, want %d, %v, %d", what, v, s, level, ok, wrong, level2, ok2, wrong2)
	}
	return level, ok, wrong
}

// picked: Pick's answer, held against the words.
func picked(t *testing.T, what string, v api.Version, level int, after []byte) (api.Task, bool, api.Errno) {
	t.Helper()
	task, ok, wrong := compact.Pick(v, level, after)
	if task2, ok2, wrong2 := pickByWords(v, level, after); !same(task, task2) || ok != ok2 || wrong != wrong2 {
		t.Errorf("P10.2: %s: Pick(%v, %d, %x): %v, %v, %d, want %v, %v, %d", what, v, level, after, task, ok, wrong, task2, ok2, wrong2)
	}
	return task, ok, wrong
}

// deepened: Deeper's answer, held against the words.
func deepened(t *testing.T, what string, v api.Version, level int) ([]api.Span, api.Errno) {
	t.Helper()
	l, wrong := compact.Deeper(v, level)
	if l2, wrong2 := deeperByWords(v, level); !same(l, l2) || wrong != wrong2 {
		t.Errorf("P10.4: %s: Deeper(%v, %d): %v, %d, want %v, %d", what, v, level, l, wrong, l2, wrong2)
	}
	return l, wrong
}

// merged: Merge's answer, held against the words and against P10.7.
func merged(t *testing.T, what string, lists [][]api.KV, oldest uint64, deeper []api.Span) ([]api.KV, api.Errno) {
	t.Helper()
	l, wrong := compact.Merge(lists, oldest, deeper)
	if want, no := mergeByWords(lists, oldest, deeper); !same(l, want) || wrong != no {
		t.Errorf("P10.3: %s: Merge(%s, %d, %s): %s, %d, want %s, %d", what, told(lists...), oldest, deeper, told(l), wrong, told(want), no)
	}
	if wrong != api.OK {
		return l, wrong
	}
	all, _ := allOf(lists)
	if !risesByWords(l) || !isPart(l, all) {
		t.Errorf("P10.7: %s: Merge(%s, %d, %s): %s doesn't rise, or is no part", what, told(lists...), oldest, deeper, told(l))
	}
	if again, no := compact.Merge([][]api.KV{l}, oldest, deeper); !same(again, l) || no != api.OK {
		t.Errorf("P10.7: %s: Merge(%s, %d, %s), merged again: %s, %d", what, told(lists...), oldest, deeper, told(again), no)
	}
	return l, wrong
}

// isPart: whether l's entries are among those of all, in the same order.
func isPart(l, all []api.KV) bool {
	for _, x := range all {
		if len(l) > 0 && same(l[0], x) {
			l = l[1:]
		}
	}
	return len(l) == 0
}

// cutUp: Cut's answer, held against the words and against P10.7.
func cutUp(t *testing.T, what string, l []api.KV, size int) ([][]api.KV, api.Errno) {
	t.Helper()
	pieces, wrong := compact.Cut(l, size)
	if want, no := cutByWords(l, size); !same(pieces, want) || wrong != no {
		t.Errorf("P10.4: %s: Cut(%s, %d): %s, %d, want %s, %d", what, told(l), size, told(pieces...), wrong, told(want...), no)
	}
	if wrong != api.OK {
		return pieces, wrong
	}
	in := map[string]int{}
	for i, p := range pieces {
		for _, x := range p {
			user := partsOf(x.Key).user
			if at, ok := in[user]; ok && at != i || len(p) == 0 {
				t.Errorf("P10.7: %s: Cut(%s, %d): %q stands in two pieces", what, told(l), size, user)
			}
			in[user] = i
		}
	}
	if !same(slices.Concat(pieces...), l) {
		t.Errorf("P10.7: %s: Cut(%s, %d): %s", what, told(l), size, told(pieces...))
	}
	return pieces, wrong
}

// viewed: View's answer, held against the words.
func viewed(t *testing.T, what string, l []api.KV, user string, seq uint64) (string, bool) {
	t.Helper()
	v, ok := compact.View(l, []byte(user), seq)
	if want, is := viewByWords(l, []byte(user), seq); string(v) != want || ok != is {
		t.Errorf("P10.5: %s: View(%s, %q, %d): %q, %v, want %q, %v", what, told(l), user, seq, v, ok, want, is)
	}
	return string(v), ok
}

// told: lists in short.
func told(lists ...[]api.KV) string {
	var b bytes.Buffer
	for _, l := range lists {
		b.WriteString("[")
		for _, x := range l {
			if p, ok := split(x.Key); ok {
				fmt.Fprintf(&b, " %q %d %s", p.user, p.seq, []string{"Delete", "Set"}[p.kind])
			} else {
				fmt.Fprintf(&b, " (%x)", x.Key)
			}
		}
		b.WriteString(" ]")
	}
	return b.String()
}

func drawnUser(r *rand.Rand) string {
	b := make([]byte, r.Intn(3))
	for i := range b {
		b[i] = "\x00abc\xff"[r.Intn(5)]
	}
	return string(b)
}

func drawnKey(r *rand.Rand) []byte { return key(drawnUser(r), uint64(r.Intn(5)), r.Intn(2)) }

// drawnVersion: one that may be.
func drawnVersion(r *rand.Rand) api.Version {
	v := api.Version{Next: 100}
	numbers := r.Perm(100)
	for level := range v.Levels {
		for range r.Intn(5) {
			a, b := drawnKey(r), drawnKey(r)
			if order(a, b) > 0 {
				a, b = b, a
			}
			w := v
			w.Levels[level] = append(slices.Clone(v.Levels[level]), api.File{Number: numbers[0], Size: r.Intn(1 << r.Intn(32)), Least: a, Most: b})
			slices.SortFunc(w.Levels[level], func(a, b api.File) int {
				if level == 0 {
					return cmp.Compare(a.Number, b.Number)
				}
				return order(a.Least, b.Least)
			})
			if manifest.Check(w) == api.OK {
				v = w
			}
			numbers = numbers[1:]
		}
	}
	return v
}

// hurtVersion: a version with one thing changed, so that it often may not be.
func hurtVersion(r *rand.Rand, v api.Version) api.Version {
	level := r.Intn(5)
	files := slices.Clone(v.Levels[level])
	i := len(files) - 1
	switch r.Intn(7) {
	case 0:
		v.Log = []int{-1, 0, most, most + 1}[r.Intn(4)]
	case 1:
		v.Next = []int{-1, 0, 50, most, most + 1}[r.Intn(5)]
	case 2:
		v.Seq = []uint64{0, api.MaxSeq, api.MaxSeq + 1}[r.Intn(3)]
	case 3:
		slices.Reverse(files)
	case 4:
		files = append(files, v.Levels[r.Intn(5)]...)
	case 5:
		if i >= 0 {
			files[i].Size = []int{-1, 0, most, most + 1}[r.Intn(4)]
		}
	case 6:
		if i >= 0 {
			files[i].Most = files[i].Most[r.Intn(len(files[i].Most)):]
		}
	}
	v.Levels[level] = files
	return v
}

// drawnLists: lists that rise and have no internal key in common, with sequence numbers from least on.
func drawnLists(r *rand.Rand, least uint64) [][]api.KV {
	lists := make([][]api.KV, r.Intn(6))
	there := map[string]struct{}{}
	for range r.Intn(20) * min(len(lists), 1) {
		k := key(drawnUser(r), least+uint64(r.Intn(6)), r.Intn(2))
		if _, ok := there[string(k)]; ok {
			continue
		}
		there[string(k)] = struct{}{}
		i := r.Intn(len(lists))
		lists[i] = append(lists[i], api.KV{Key: k, Value: []byte(drawnUser(r))})
	}
	for _, l := range lists {
		slices.SortFunc(l, func(a, b api.KV) int { return order(a.Key, b.Key) })
	}
	return lists
}

// hurtLists: lists with one thing changed, so that they often don't rise.
func hurtLists(r *rand.Rand, lists [][]api.KV) [][]api.KV {
	lists = slices.Clone(lists)
	if len(lists) == 0 {
		return lists
	}
	n := r.Intn(len(lists))
	l := slices.Clone(lists[n])
	if len(l) == 0 {
		return lists
	}
	i, k := r.Intn(len(l)), r.Intn(len(l))
	switch r.Intn(6) {
	case 0:
		l[i], l[k] = l[k], l[i]
	case 1:
		l = append(l, l[i])
	case 2:
		m := r.Intn(len(lists))
		lists[m] = append(lists[m][:len(lists[m]):len(lists[m])], l[len(l)-1])
	case 3:
		l[i].Key = l[i].Key[:r.Intn(len(l[i].Key))]
	case 4:
		l[i].Key = append(bytes.Repeat([]byte{byte(r.Intn(256))}, 127+r.Intn(3)), l[i].Key...)
	case 5:
		l[i].Key = slices.Clone(l[i].Key)
		l[i].Key[len(l[i].Key)-8] = byte(r.Intn(4))
	}
	if r.Intn(8) > 0 {
		lists[n] = l
	}
	return lists
}

// drawnSpans: some of them the wrong way round.
func drawnSpans(r *rand.Rand) []api.Span {
	var l []api.Span
	for range r.Intn(5) {
		l = append(l, span(drawnUser(r), drawnUser(r)))
	}
	return l
}

func drawnOldest(r *rand.Rand, least uint64) uint64 {
	if r.Intn(8) == 0 {
		return []uint64{0, api.MaxSeq, math.MaxUint64}[r.Intn(3)]
	}
	return least - 1 + uint64(r.Intn(8))
}
