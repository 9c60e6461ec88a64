package proof_test

import (
	"math/rand"
	"slices"
	"strings"
	"testing"

	"moraine/api"
	"moraine/proof"
	"moraine/trie"
)

// walkByWords: what P16.5 says of Walk.
func walkByWords(all []sight) ([]api.Hash, api.Errno) {
	for _, s := range all {
		if e := s.wrong(); e != api.OK {
			return nil, e
		}
	}
	return hashes(all, func(sight) bool { return true }), api.OK
}

// walks: that Walk answers what the words say; what that is.
func walks(t *testing.T, l []api.Node, root api.Hash) ([]api.Hash, api.Errno) {
	t.Helper()
	want, e := walkByWords(sights(l, root))
	got, f := proof.Walk(l, root)
	if !slices.Equal(got, want) || e != f {
		t.Fatalf("P16.5: Walk: %d, %x, not %d, %x; of the nodes\n%s", f, got, e, want, sayNodes(l))
	}
	return got, f
}

// TestWalk: of whole tries: all nodes, each once, none behind what it refers to; of tries that lack one, or have another one under its hash, the error.
func TestWalk(t *testing.T) {
	for _, m := range worlds() {
		root, l := made(m)
		got, e := walks(t, l, root)
		if e != api.OK || len(got) != len(l) {
			t.Fatalf("P16.5: %d nodes of %d, %d", len(got), len(l), e)
		}
		for _, h := range got {
			below, _ := trie.Children(only(l, h)[0].Bytes)
			for _, child := range below {
				if slices.Index(got, child) < 0 {
					t.Fatalf("P16.5: %x isn't told", child)
				}
			}
		}
		for _, i := range someOf(len(l)) {
			h := l[i].Hash
			if _, e := walks(t, without(l, h), root); e != api.ErrProofNode {
				t.Errorf("P16.5: without a node: %d", e)
			}
			if _, e := walks(t, append([]api.Node{{Hash: h, Bytes: nodeOf(leaf("12", "x")).Bytes}}, l...), root); e != api.ErrProofForm {
				t.Errorf("P16.5: another node's bytes: %d", e)
			}
			if got, e := walks(t, append(slices.Clone(l), api.Node{Hash: h}), root); e != api.OK || len(got) != len(l) {
				t.Errorf("P16.5: of two with one hash the first one: %d", e)
			}
		}
	}
	for _, l := range [][]api.Node{nil, {{Hash: trie.Empty(), Bytes: []byte{0x80}}}} {
		if got, e := walks(t, l, trie.Empty()); len(got) != 0 || e != api.OK {
			t.Errorf("P16.5: of the root trie.Empty(): %x, %d", got, e)
		}
	}
}

// TestWalkOrder: the root, what the lower nibble leads to and all below that, then the next one; a shared node where it comes first.
func TestWalkOrder(t *testing.T) {
	a, b, c := nodeOf(leaf("1", "a")), nodeOf(leaf("1", "b"+long)), nodeOf(leaf("1", "c"+long))
	x := nodeOf(fork(map[int]api.Item{3: hashed(b.Hash), 9: hashed(a.Hash), 10: way("1", fork(map[int]api.Item{0: leaf("1", "i"), 1: leaf("1", "j")})), 16: text(long)}))
	near, far := nodeOf(way("1", hashed(x.Hash))), nodeOf(way("333", hashed(x.Hash)))
	top := nodeOf(fork(map[int]api.Item{2: hashed(near.Hash), 4: hashed(c.Hash), 5: hashed(far.Hash), 7: leaf("7", "z"), 8: hashed(a.Hash)}))
	l := []api.Node{a, b, c, x, near, far, top}
	if got, e := walks(t, l, top.Hash); e != api.OK || !slices.Equal(got, []api.Hash{top.Hash, near.Hash, x.Hash, b.Hash, a.Hash, c.Hash, far.Hash}) {
		t.Errorf("P16.5: %x, %d", got, e)
	}
	if got, e := walks(t, l, near.Hash); e != api.ErrProofForm {
		t.Errorf("P16.5: of a trie whose keys don't end where values stand: %x, %d", got, e)
	}
}

// TestWalkForms: values where no key ends, paths that are too long, bytes that are no node; also where a shared node stands well at one place, and not at another one.
func TestWalkForms(t *testing.T) {
	told := map[api.Errno]int{}
	for _, l := range forms() {
		_, e := walks(t, l, l[0].Hash)
		told[e]++
	}
	for _, e := range []api.Errno{api.OK, api.ErrProofNode, api.ErrProofForm} {
		if told[e] < 5 {
			t.Errorf("%d only %d times", e, told[e])
		}
	}
	x := nodeOf(leaf("1", long))
	for path, want := range map[string]api.Errno{"2": api.ErrProofForm, "22": api.OK, strings.Repeat("2", 124): api.OK, strings.Repeat("2", 126): api.OK, strings.Repeat("2", 128): api.ErrProofForm} {
		far := nodeOf(way(path, hashed(x.Hash)))
		top := nodeOf(fork(map[int]api.Item{1: hashed(x.Hash), 2: hashed(far.Hash)}))
		if _, e := walks(t, []api.Node{x, far, top}, top.Hash); e != want {
			t.Errorf("P16.5: %d nibbles ahead: %d", len(path)+1, e)
		}
	}
}

// TestWalkOfMany: as many nodes as there may be, each of which is referred to from all over.
func TestWalkOfMany(t *testing.T) {
	l := []api.Node{nodeOf(leaf("", "x"))}
	for range 128 {
		l = append(l, nodeOf(full(hashed(l[len(l)-1].Hash))))
	}
	slices.Reverse(l)
	got, e := proof.Walk(l, l[0].Hash)
	if e != api.OK || !slices.Equal(got, hashesOf(l)) {
		t.Errorf("P16.5: %d nodes, %d", len(got), e)
	}
	wide := []api.Node{}
	var refs []api.Item
	for len(wide) < 4096-(256+16+1) {
		wide = append(wide, nodeOf(leaf("1", strings.Repeat("v", 30+len(wide)))))
		refs = append(refs, hashed(wide[len(wide)-1].Hash))
	}
	for len(refs) > 1 {
		var above []api.Item
		for part := range slices.Chunk(refs, 16) {
			x := fork(nil)
			if len(refs) > 2000 {
				x.Items[16] = text(long) // where keys of one byte end
			}
			copy(x.Items, part)
			wide = append(wide, nodeOf(x))
			above = append(above, hashed(wide[len(wide)-1].Hash))
		}
		refs = above
	}
	if got, e := proof.Walk(wide, wide[len(wide)-1].Hash); e != api.OK || len(got) != len(wide) || len(wide) < 4000 {
		t.Errorf("P16.5: %d nodes of %d, %d", len(got), len(wide), e)
	}
}

// TestWalkOfOddNodes: tries as no map has them, by the words.
func TestWalkOfOddNodes(t *testing.T) {
	seeded(t, 4, func(t *testing.T, r *rand.Rand) {
		told := map[api.Errno]int{}
		for range 2000 {
			l := drawnNodes(r)
			if r.Intn(2) == 0 {
				l = evenNodes(r)
			}
			r.Shuffle(len(l)-1, func(i, j int) { l[i], l[j] = l[j], l[i] })
			_, e := walks(t, l, l[len(l)-1].Hash)
			told[e]++
		}
		for _, e := range []api.Errno{api.OK, api.ErrProofNode, api.ErrProofForm} {
			if told[e] < 50 {
				t.Errorf("%d only %d times", e, told[e])
			}
		}
	})
}
