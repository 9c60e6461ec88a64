package block_test

import (
	"bytes"
	"math/rand"
	"strings"
	"testing"

	"moraine/api"
	"moraine/block"
)

// spoilt: every byte changed, those of the spare room too.
func spoilt(b []byte) {
	b = b[:cap(b)]
	for i := range b {
		b[i] ^= 0x5A
	}
}

// whole: all bytes of the lists, spare room included.
func whole(lists ...[]byte) string {
	var all strings.Builder
	for _, b := range lists {
		all.Write(b[:cap(b)])
		all.WriteByte(0)
	}
	return all.String()
}

func listsOf(l []api.KV) [][]byte {
	var out [][]byte
	for _, x := range l {
		out = append(out, x.Key, x.Value)
	}
	return out
}

func TestNothingHandedInIsChanged(t *testing.T) {
	r := rand.New(rand.NewSource(10))
	for range 300 {
		rows := drawnRows(r, r.Intn(12))
		l := entries(rows)
		spare := api.KV{Key: []byte("spare"), Value: []byte("room")}
		l = append(l, spare)[:len(l)]
		was := whole(listsOf(l[:len(l)+1])...)
		b, _ := block.Build(l, 1+r.Intn(4))
		if whole(listsOf(l[:len(l)+1])...) != was {
			t.Fatalf("P7.1: Build changed what was handed in")
		}
		b, k := roomy(string(b)), roomy(drawnKey(r))
		was = whole(b, k)
		block.Parse(b)
		block.Seek(b, k)
		block.Seek(k, b)
		block.Parse(k)
		if whole(b, k) != was {
			t.Fatalf("P7.2: Parse or Seek changed what was handed in")
		}
		keys := lists(names(r.Intn(20)))
		keys = append(keys, []byte("spare"))[:len(keys)]
		was = whole(keys[:len(keys)+1]...)
		f, _ := block.Filter(keys, 1+r.Intn(64))
		if whole(keys[:len(keys)+1]...) != was {
			t.Fatalf("P7.3: Filter changed what was handed in")
		}
		f = roomy(string(f))
		was = whole(f, k)
		block.May(f, k)
		if whole(f, k) != was {
			t.Fatalf("P7.3: May changed what was handed in")
		}
	}
}

// TestAnswersAreNewMemory: what is done to what was handed in, or to one answer, isn't seen in another.
func TestAnswersAreNewMemory(t *testing.T) {
	r := rand.New(rand.NewSource(11))
	for range 300 {
		rows := drawnRows(r, 1+r.Intn(12))
		restart := 1 + r.Intn(4)
		l := entries(rows)
		b, _ := block.Build(l, restart)
		again, _ := block.Build(l, restart)
		for _, list := range listsOf(l) {
			spoilt(list)
		}
		spoilt(again)
		if want, _ := buildByWords(rows, restart); string(b) != want {
			t.Fatalf("P7.1: a block shares memory with what it was built of")
		}
		k := []byte(rows[r.Intn(len(rows))].key)
		in := bytes.Clone(b)
		got, _ := block.Parse(in)
		other, _ := block.Parse(in)
		x, _, _ := block.Seek(in, k)
		y, _, _ := block.Seek(in, k)
		entry := row{string(x.Key), string(x.Value)}
		spoilt(in)
		spoilt(k)
		for _, list := range append(listsOf(other), y.Key, y.Value) {
			spoilt(list)
		}
		if !sameRows(got, rows) || string(x.Key) != entry.key || string(x.Value) != entry.value {
			t.Fatalf("P7.2: an answer shares memory with the block, or with another answer")
		}
		eachApart(t, append(listsOf(got), x.Key, x.Value))
	}
}

// eachApart: that no list is touched by what is done with another one, spare room included.
func eachApart(t *testing.T, lists [][]byte) {
	t.Helper()
	was := make([]string, len(lists))
	for i, b := range lists {
		was[i] = string(b[:cap(b)])
	}
	for i := range lists {
		spoilt(lists[i])
		for j, b := range lists {
			if i != j && string(b[:cap(b)]) != was[j] {
				t.Fatalf("P7.2: two lists of an answer share memory")
			}
		}
		spoilt(lists[i])
	}
}

func TestFiltersAreNewMemory(t *testing.T) {
	keys := lists(names(30))
	for _, bits := range []int{1, 10, 64} {
		f, _ := block.Filter(keys, bits)
		g, _ := block.Filter(keys, bits)
		was := string(f)
		spoilt(g)
		for _, key := range keys {
			spoilt(key)
		}
		if string(f) != was {
			t.Errorf("P7.3: a filter shares memory with another, or with its keys")
		}
		for _, key := range keys {
			spoilt(key)
		}
	}
}
