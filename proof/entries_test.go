package proof_test

import (
	"maps"
	"math/rand"
	"slices"
	"strings"
	"testing"

	"moraine/api"
	"moraine/keccak"
	"moraine/proof"
	"moraine/rlp"
	"moraine/trie"
)

// entriesByWords: what P16.5 says, of a list and a limit that are taken.
func entriesByWords(all []sight, from string, limit int) ([]api.KV, api.Errno) {
	var l []api.KV
	ahead := "none" // a path with which no key begins that isn't ahead of from
	for _, s := range all {
		if len(l) == limit {
			break
		}
		if !strings.HasPrefix(s.path, ahead) && len(s.path) <= 128 && unhex(s.path+strings.Repeat("f", 128-len(s.path))) < from {
			ahead = s.path
		}
		if strings.HasPrefix(s.path, ahead) {
			continue
		}
		if e := s.wrong(); e != api.OK {
			return nil, e
		}
		if s.value != "" && unhex(s.end) >= from {
			l = append(l, api.KV{Key: []byte(unhex(s.end)), Value: []byte(s.value)})
		}
	}
	return l, api.OK
}

// lists: that Entries answers what the words say; what that is.
func lists(t *testing.T, l []api.Node, root api.Hash, all []sight, from string, limit int) ([]api.KV, api.Errno) {
	t.Helper()
	want, e := entriesByWords(all, from, limit)
	got, f := proof.Entries(l, root, []byte(from), limit)
	if !sameEntries(got, want) || e != f {
		t.Fatalf("P16.5: Entries(%x, %d): %d,\n%s, not %d,\n%s", from, limit, f, sayEntries(got), e, sayEntries(want))
	}
	return got, f
}

// TestEntries: from each key on and from those near them, of whole tries.
func TestEntries(t *testing.T) {
	for _, m := range worlds() {
		root, l := made(m)
		all := sights(l, root)
		for _, from := range append(nearAll(m, 100), "\xFF", strings.Repeat("\xFF", 64), strings.Repeat("\xFF", 65), strings.Repeat("\x5A", 66)) {
			for _, limit := range []int{1, 2, 5, 4096} {
				got, e := lists(t, l, root, all, from, limit)
				want := slices.DeleteFunc(kvs(m), func(x api.KV) bool { return string(x.Key) < from })
				if e != api.OK || !sameEntries(got, want[:min(limit, len(want))]) {
					t.Fatalf("P16.5: from %x: %d,\n%s", from, e, sayEntries(got))
				}
			}
		}
	}
}

func TestEntriesBounds(t *testing.T) {
	root, l := made(map[string]string{"a": "x", "b": long})
	for _, limit := range []int{0, -1, 4097, 1 << 40, -1 << 40} {
		for _, h := range []api.Hash{root, trie.Empty(), {}} {
			if got, e := proof.Entries(l, h, nil, limit); len(got) != 0 || e != api.ErrProofKeys {
				t.Errorf("P16.5: Entries, %d: %d", limit, e)
			}
			if got, e := proof.Differ(l, h, root, limit); len(got) != 0 || e != api.ErrProofKeys {
				t.Errorf("P16.5: Differ, %d: %d", limit, e)
			}
		}
		if _, e := proof.Entries(longList(l, 4097), root, nil, limit); e != api.ErrProofMore {
			t.Errorf("P16.5: Entries of 4097 nodes: %d", e)
		}
		if _, e := proof.Differ(longList(l, 4097), root, trie.Empty(), limit); e != api.ErrProofMore {
			t.Errorf("P16.5: Differ of 4097 nodes: %d", e)
		}
	}
	most := longList(l, 4096)
	got, e := proof.Entries(most, root, nil, 4096)
	walked, f := proof.Walk(most, root)
	changes, g := proof.Differ(most, root, trie.Empty(), 4096)
	if len(got) != 2 || len(walked) != len(l) || len(changes) != 2 || e != api.OK || f != api.OK || g != api.OK {
		t.Errorf("P16.5: of 4096 nodes: %d, %d, %d", e, f, g)
	}
	for _, h := range []api.Hash{root, trie.Empty(), {}} {
		more := longList(l, 4097)
		got, e := proof.Entries(more, h, nil, 1)
		walked, f := proof.Walk(more, h)
		changes, g := proof.Differ(more, h, h, 1)
		if len(got)+len(walked)+len(changes) != 0 || e != api.ErrProofMore || f != api.ErrProofMore || g != api.ErrProofMore {
			t.Errorf("P16.5: of 4097 nodes: %d, %d, %d", e, f, g)
		}
	}
}

// TestEntriesMissing: tries that lack a node, or have another one under its hash, in the part that is looked at and in one that isn't.
func TestEntriesMissing(t *testing.T) {
	told := map[api.Errno]int{}
	for _, m := range worlds() {
		root, l := made(m)
		froms := nearAll(m, 12)
		for _, i := range someOf(len(l)) {
			other := nodeOf(leaf("00", "other"))
			other.Hash = l[i].Hash
			for _, hurt := range [][]api.Node{without(l, l[i].Hash), append([]api.Node{other}, l...), append([]api.Node{{Hash: l[i].Hash}}, l...)} {
				all := sights(hurt, root)
				for _, from := range froms {
					for _, limit := range []int{1, 3, 4096} {
						_, e := lists(t, hurt, root, all, from, limit)
						told[e]++
					}
				}
			}
			all := sights(append(slices.Clone(l), other), root)
			if _, e := lists(t, append(slices.Clone(l), other), root, all, "", 4096); e != api.OK {
				t.Errorf("P16.5: of two with one hash the first one: %d", e)
			}
		}
	}
	for _, e := range []api.Errno{api.OK, api.ErrProofNode, api.ErrProofForm} {
		if told[e] < 100 {
			t.Errorf("%d only %d times", e, told[e])
		}
	}
	// Behind all keys nothing must be looked at, not even the root.
	if got, e := proof.Entries(nil, api.Hash{1}, []byte(strings.Repeat("\xFF", 65)), 1); len(got) != 0 || e != api.OK {
		t.Errorf("P16.5: %d", e)
	}
	if got, e := proof.Entries(nil, api.Hash{1}, []byte(strings.Repeat("\xFF", 64)), 1); len(got) != 0 || e != api.ErrProofNode {
		t.Errorf("P16.5: %d", e)
	}
	if got, e := proof.Entries(nil, trie.Empty(), nil, 1); len(got) != 0 || e != api.OK {
		t.Errorf("P16.5: of the root trie.Empty(): %d", e)
	}
}

// forms: tries with something that isn't a key's path, or no node.
func forms() [][]api.Node {
	short, chain := leaf("", "x"), leaf("1", "x")
	for range 5 {
		chain = way("1", chain)
	}
	tall := nodeOf(leaf("", "x"))
	l := []api.Node{tall}
	for range 129 {
		l = append(l, nodeOf(way("1", hashed(l[len(l)-1].Hash))))
	}
	slices.Reverse(l)
	all := [][]api.Node{l, l[1:], l[2:], l[3:]}
	f := strings.Repeat("f", 126)
	for _, x := range []api.Item{
		leaf("", "x"), leaf("1", "x"), leaf("12", "x"), leaf("123", "x"), leaf(f+"ff", "x"), leaf(f+"f", "x"), way("1", short), way("1", leaf("1", "x")), way("1", leaf(f+"f", "x")), way("1", leaf(f+"ff", "x")), way("11", leaf(f+"ff", "x")), chain,
		way(f, fork(map[int]api.Item{3: leaf("1", "x"), 16: text("y")})), way(f, fork(map[int]api.Item{3: leaf("1", "x"), 4: leaf("11", "x")})), way(f+"f", fork(map[int]api.Item{3: short, 4: short})), way(f+"f", fork(map[int]api.Item{3: short, 16: text("y")})),
		way(f+"ff", fork(map[int]api.Item{3: short, 16: text("y")})), way(f+"ff", fork(map[int]api.Item{3: leaf("1", "x"), 4: short})), fork(map[int]api.Item{0: leaf("1", "x"), 1: leaf("11", "x"), 2: leaf("1", "x")}), fork(map[int]api.Item{0: leaf("1", "x"), 2: fork(map[int]api.Item{3: short, 16: text("y")})}),
		way(f+"ff", hashed(api.Hash{1})), way(f+"ff", way("1", hashed(api.Hash{1}))), way("1", way(f+"ff", hashed(api.Hash{1}))), way("1", way(f+"f", hashed(api.Hash{1}))), way("1", hashed(api.Hash{1})),
	} {
		below := nodeOf(x)
		all = append(all, []api.Node{below}, []api.Node{nodeOf(way("1", hashed(below.Hash))), below}, []api.Node{nodeOf(way("12", hashed(below.Hash))), below}, []api.Node{nodeOf(fork(map[int]api.Item{1: hashed(below.Hash), 2: leaf("2", "z")})), below})
	}
	for _, junk := range [][]byte{nil, {0xC0}, []byte("junk"), encoded(list(text("a"), text("b"))), make([]byte, 70000)} {
		n := api.Node{Hash: keccak.Sum(junk), Bytes: junk}
		all = append(all, []api.Node{n}, []api.Node{nodeOf(fork(map[int]api.Item{1: hashed(n.Hash), 0: leaf("2", "z")})), n})
	}
	return all
}

// TestEntriesForms: values where no key ends, paths that are too long, bytes that are no node.
func TestEntriesForms(t *testing.T) {
	told := map[api.Errno]int{}
	for _, l := range forms() {
		root := l[0].Hash
		all := sights(l, root)
		for _, from := range []string{"", "\x00", "\x02", "\x03", "\x11", "\x12", "\x13", "\x22", "\x23", "\xFF", strings.Repeat("\xFF", 64), strings.Repeat("\x11", 63), strings.Repeat("\x11", 64), strings.Repeat("\x11", 65)} {
			for _, limit := range []int{1, 2, 4096} {
				_, e := lists(t, l, root, all, from, limit)
				told[e]++
			}
		}
	}
	for _, e := range []api.Errno{api.OK, api.ErrProofNode, api.ErrProofForm} {
		if told[e] < 20 {
			t.Errorf("%d only %d times", e, told[e])
		}
	}
	for path, e := range map[string]api.Errno{"": api.OK, "1": api.ErrProofForm, "12": api.OK, strings.Repeat("1", 127): api.ErrProofForm, strings.Repeat("1", 128): api.OK} {
		n := nodeOf(leaf(path, "x"))
		if got, f := proof.Entries([]api.Node{n}, n.Hash, nil, 1); f != e || e == api.OK && (len(got) != 1 || digits(string(got[0].Key)) != path) {
			t.Errorf("P16.5: a leaf of %d nibbles: %d", len(path), f)
		}
	}
}

// TestEntriesOfMany: tries of far more keys than nodes: no more is looked at than is needed.
func TestEntriesOfMany(t *testing.T) {
	l := []api.Node{nodeOf(leaf("", "x"))}
	for range 128 {
		l = append(l, nodeOf(full(hashed(l[len(l)-1].Hash))))
	}
	root := l[len(l)-1].Hash
	from := strings.Repeat("\x5A", 64)
	for _, limit := range []int{1, 300, 4096} {
		got, e := proof.Entries(l, root, []byte(from), limit)
		if e != api.OK || len(got) != limit {
			t.Fatalf("P16.5: %d entries, %d", len(got), e)
		}
		key := []byte(from)
		for i, x := range got {
			if string(x.Key) != string(key) || string(x.Value) != "x" {
				t.Fatalf("P16.5: %d: %x", i, x.Key)
			}
			for at := 63; ; at-- {
				key[at]++
				if key[at] != 0 {
					break
				}
			}
		}
	}
	great := strings.Repeat("v", 50000)
	n := nodeOf(fork(map[int]api.Item{1: leaf("1", "x"), 16: text(great)}))
	if got, e := proof.Entries([]api.Node{n}, n.Hash, nil, 2); e != api.OK || len(got) != 2 || string(got[0].Value) != great {
		t.Errorf("P16.5: a great value: %d", e)
	}
}

// drawnNodes: some with their own hashes, which refer to one another, now and then to one that isn't there; the root is the last one.
func drawnNodes(r *rand.Rand) []api.Node {
	l := []api.Node{nodeOf(leaf([]string{"", "1"}[r.Intn(2)], "x"))}
	for range 1 + r.Intn(6) {
		l = append(l, nodeOf(oddNode(r, 2, func() api.Item {
			if r.Intn(30) == 0 {
				return hashed(api.Hash{byte(r.Intn(256))})
			}
			return hashed(l[r.Intn(len(l))].Hash)
		})))
	}
	return l
}

// evenNodes: likewise, but with values nowhere than where keys end: each node's paths and references have an even number of nibbles between them.
func evenNodes(r *rand.Rand) []api.Node {
	values := []string{"x", "y", long}
	l := []api.Node{nodeOf(leaf("", "x"))}
	ref := func() api.Item {
		if r.Intn(60) == 0 {
			return hashed(api.Hash{byte(r.Intn(256))})
		}
		n := l[max(0, len(l)-1-r.Intn(3))]
		if len(n.Bytes) < 32 && r.Intn(2) == 0 {
			return must(rlp.Decode(n.Bytes))
		}
		return hashed(n.Hash)
	}
	for range 1 + r.Intn(7) {
		path := []string{"11", "12", "0111", "21"}[r.Intn(4)]
		inner := fork(map[int]api.Item{r.Intn(2): ref(), 2 + r.Intn(2): ref()})
		switch r.Intn(6) {
		case 0:
			l = append(l, nodeOf(leaf(path, values[r.Intn(3)])))
		case 1:
			l = append(l, nodeOf(way(path, ref())))
		case 2:
			l = append(l, nodeOf(way(path[:1], ref())))
			l = append(l, nodeOf(way(path[1:], hashed(l[len(l)-1].Hash))))
		default:
			x := fork(map[int]api.Item{1: way("1", ref()), 2: leaf("1", values[r.Intn(3)])})
			if len(encoded(inner)) >= 32 {
				l = append(l, nodeOf(inner))
				x.Items[r.Intn(2)] = byHash(inner)
			}
			if r.Intn(2) == 0 {
				x.Items[16] = text(values[r.Intn(3)])
			}
			if len(encoded(x.Items[1])) >= 32 && x.Items[1].List {
				x.Items[1] = hashed(l[0].Hash)
			}
			if len(encoded(x.Items[2])) >= 32 {
				x.Items[2] = leaf("1", "z")
			}
			l = append(l, nodeOf(x))
		}
	}
	return l
}

// TestEntriesOfOddNodes: tries as no map has them, by the words.
func TestEntriesOfOddNodes(t *testing.T) {
	seeded(t, 4, func(t *testing.T, r *rand.Rand) {
		told := map[api.Errno]int{}
		for range 1500 {
			l := drawnNodes(r)
			if r.Intn(2) == 0 {
				l = evenNodes(r)
			}
			root := l[len(l)-1].Hash
			all := sights(l, root)
			for range 6 {
				_, e := lists(t, l, root, all, drawnKey(r), []int{1, 2, 5, 4096}[r.Intn(4)])
				told[e]++
			}
		}
		for _, e := range []api.Errno{api.OK, api.ErrProofNode, api.ErrProofForm} {
			if told[e] < 100 {
				t.Errorf("%d only %d times: %v", e, told[e], maps.Collect(maps.All(told)))
			}
		}
	})
}
