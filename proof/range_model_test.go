package proof_test

import (
	"bytes"
	"fmt"
	"math/big"
	"math/rand"
	"slices"
	"strings"
	"testing"

	"moraine/api"
	"moraine/keccak"
	"moraine/proof"
	"moraine/rlp"
	"moraine/trie"
)

// bound: a range, by the digits of its ends.
type bound struct{ least, most string }

func (b bound) hashes() (api.Hash, api.Hash) {
	return api.Hash([]byte(unhex(b.least))), api.Hash([]byte(unhex(b.most)))
}

var (
	lowest  = strings.Repeat("0", 64)
	highest = strings.Repeat("f", 64)
)

// lies: P16.3's words, by the first and the last key that begin with a path.
func (b bound) lies(path string) string {
	if len(path) > 64 {
		return "in" // and outside: of no key anything can be said
	}
	first, last := path+lowest[len(path):], path+highest[len(path):]
	switch {
	case b.least <= first && last <= b.most:
		return "in"
	case last < b.least || b.most < first:
		return "outside"
	}
	return "across"
}

// of: the entries of a map in the range.
func (b bound) of(m map[string]string) []api.KV {
	return slices.DeleteFunc(kvs(m), func(x api.KV) bool { d := digits(string(x.Key)); return d < b.least || d > b.most })
}

// aside: the digits of a key, and so much more or less.
func aside(d string, n int64) string {
	x, _ := new(big.Int).SetString(d, 16)
	x.Add(x, big.NewInt(n))
	s := fmt.Sprintf("%064x", x)
	if x.Sign() < 0 || len(s) > 64 {
		return d
	}
	return s
}

// bounds: ranges whose ends are keys, or beside keys, or far from them, of which some are of one key, and some of none.
func bounds(m map[string]string, r *rand.Rand) []bound {
	ends := []string{lowest, highest, aside(lowest, 1), aside(highest, -1), "8" + lowest[1:], "7" + highest[1:]}
	for _, x := range kvs(m) {
		d := digits(string(x.Key))
		ends = append(ends, d, aside(d, 1), aside(d, -1), aside(d, 16), aside(d, -300))
	}
	slices.Sort(ends)
	l := []bound{{lowest, highest}, {lowest, lowest}, {highest, highest}, {aside(lowest, 1), highest}, {lowest, aside(highest, -1)}}
	for range 40 {
		b := bound{ends[r.Intn(len(ends))], ends[r.Intn(len(ends))]}
		if b.least > b.most {
			b.least, b.most = b.most, b.least
		}
		l = append(l, b)
	}
	for _, x := range kvs(m)[:min(len(m), 5)] {
		d := digits(string(x.Key))
		l = append(l, bound{d, d}, bound{aside(d, -1), d}, bound{d, aside(d, 1)}, bound{lowest, d}, bound{d, highest})
	}
	return l
}

// rangeWorlds: maps of keys of 32 bytes, whose tries are empty, of one key, of many; that part early, late, at their last nibble; with parts that are alike; with values that are short, or long.
func rangeWorlds() []map[string]string {
	secure := func(n int) map[string]string {
		m := map[string]string{}
		for i := range n {
			m[string(trie.Secure([]byte{byte(i)}))] = strings.Repeat(fmt.Sprint(i), 1+i%30)
		}
		return m
	}
	l := []map[string]string{{}, secure(1), secure(2), secure(17), secure(90)}
	for _, size := range []int{1, 33, 1024} {
		late, alike, first := map[string]string{}, map[string]string{}, map[string]string{}
		for i := range 40 {
			late[unhex(strings.Repeat("5a", 30)+fmt.Sprintf("%04x", i*i*i%5000))] = strings.Repeat("v", size)
			alike[unhex(fmt.Sprintf("%x%s%02x", []int{0, 3, 7, 15}[i%4], strings.Repeat("a", 61), i/4))] = strings.Repeat("v", size)
			first[unhex(fmt.Sprintf("%02x%s", i*6, strings.Repeat("0", 62)))] = strings.Repeat("v", size)
		}
		l = append(l, late, alike, first)
	}
	deep := map[string]string{}
	whole := strings.Repeat("5a", 32)
	for i := range 64 {
		deep[unhex(whole[:i]+"7"+whole[i+1:])] = "x"
		deep[unhex(whole[:i]+"0"+whole[i+1:])] = long
	}
	deep[unhex(whole)] = "whole"
	ends := map[string]string{unhex(lowest): "x", unhex(highest): "y", unhex(aside(lowest, 1)): long, unhex(aside(highest, -1)): long}
	return append(l, deep, ends)
}

// verifyByWords: what P16.4 says.
func verifyByWords(root api.Hash, b bound, entries []api.KV, l []api.Node) api.Errno {
	if len(l) > 4096 || len(entries) > 4096 {
		return api.ErrProofMore
	}
	m := map[string]string{}
	for i, x := range entries {
		d := digits(string(x.Key))
		if len(x.Key) != 32 || d < b.least || d > b.most || i > 0 && bytes.Compare(entries[i-1].Key, x.Key) >= 0 || len(x.Value) == 0 || len(x.Value) > 1024 {
			return api.ErrProofKeys
		}
		m[d] = string(x.Value)
	}
	if b.most < b.least {
		return api.ErrProofKeys
	}
	w := words{b, m, l, map[int]struct{}{}}
	ref := hashed(root)
	if root == trie.Empty() {
		ref = api.Item{}
	}
	if e := w.reference("", ref); e != api.OK {
		return e
	}
	if len(w.needed) < len(l) {
		return api.ErrProofMore
	}
	return api.OK
}

// words: entries that are held against a trie, by the chapter's words.
type words struct {
	bound
	m      map[string]string
	l      []api.Node
	needed map[int]struct{}
}

func either(ok bool, e api.Errno) api.Errno {
	if ok {
		return api.OK
	}
	return e
}

func (w words) reference(path string, ref api.Item) api.Errno {
	part := within(w.m, path)
	switch w.lies(path) {
	case "in":
		want := api.Item{}
		if len(part) > 0 {
			want = refer(itemOf(part, len(path)))
		}
		return either(rlp.Equal(ref, want), api.ErrProofRoot)
	case "outside":
		return api.OK
	}
	if !ref.List && len(ref.Bytes) == 0 {
		return either(len(part) == 0, api.ErrProofRoot)
	}
	if !ref.List {
		i := slices.IndexFunc(w.l, func(n api.Node) bool { return n.Hash == api.Hash(ref.Bytes) })
		if i < 0 {
			return api.ErrProofNode
		}
		w.needed[i] = struct{}{}
		if keccak.Sum(w.l[i].Bytes) != w.l[i].Hash {
			return api.ErrProofRoot
		}
		if trie.Check(w.l[i].Bytes) != api.OK {
			return api.ErrProofForm
		}
		ref, _ = rlp.Decode(w.l[i].Bytes)
	}
	if len(ref.Items) == 17 {
		return w.fork(path, ref)
	}
	return w.pair(path, part, ref)
}

func (w words) fork(path string, x api.Item) api.Errno {
	if len(x.Items[16].Bytes) > 0 {
		return api.ErrProofForm // a fork's path is never one of 64 nibbles here
	}
	for i, ref := range x.Items[:16] {
		if e := w.reference(path+fmt.Sprintf("%x", i), ref); e != api.OK {
			return e
		}
	}
	return api.OK
}

func (w words) pair(path string, part map[string]string, x api.Item) api.Errno {
	nibbles, isLeaf, _ := trie.Unpack(x.Items[0].Bytes)
	end := path
	for _, n := range nibbles {
		end += fmt.Sprintf("%x", n)
	}
	switch {
	case len(end) > 64 || isLeaf && len(end) < 64:
		return api.ErrProofForm
	case isLeaf && w.lies(end) == "in" && w.m[end] != string(x.Items[1].Bytes):
		return api.ErrProofRoot
	}
	for key := range part {
		if !strings.HasPrefix(key, end) {
			return api.ErrProofRoot
		}
	}
	if isLeaf {
		return api.OK
	}
	return w.reference(end, x.Items[1])
}

// takes: that VerifyRange answers that, and what the words do.
func takes(t *testing.T, root api.Hash, b bound, entries []api.KV, l []api.Node, want api.Errno) {
	t.Helper()
	least, most := b.hashes()
	got, words := proof.VerifyRange(root, least, most, entries, l), verifyByWords(root, b, entries, l)
	if got != want || words != want {
		t.Fatalf("P16.4: VerifyRange(%s to %s): %d, by the words %d, not %d; the entries\n%sthe nodes\n%s", b.least, b.most, got, words, want, sayEntries(entries), sayNodes(l))
	}
}

// proven: what ProveRange tells, which is to be no error.
func proven(t *testing.T, l []api.Node, root api.Hash, b bound) []api.Node {
	t.Helper()
	least, most := b.hashes()
	p, e := proof.ProveRange(l, root, least, most)
	if e != api.OK {
		t.Fatalf("P16.3: ProveRange(%s to %s): %d", b.least, b.most, e)
	}
	return p
}

// refusesRange: that ProveRange answers that error, and nothing beside it.
func refusesRange(t *testing.T, l []api.Node, root api.Hash, b bound, want api.Errno) {
	t.Helper()
	least, most := b.hashes()
	if p, e := proof.ProveRange(l, root, least, most); len(p) != 0 || e != want {
		t.Fatalf("P16.3: ProveRange(%s to %s): %d nodes, %d, not %d", b.least, b.most, len(p), e, want)
	}
}
