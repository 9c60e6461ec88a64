package proof_test

import (
	"bytes"
	"fmt"
	"math/rand"
	"slices"
	"strings"
	"testing"

	"moraine/api"
	"moraine/proof"
	"moraine/trie"
)

const behind = "what stands behind it"

// ward: lists with spare room behind them, as they are handed in, and as they must stay.
type ward struct {
	wholes [][]byte
	kept   []string
}

func (w *ward) bytes(b []byte) []byte {
	whole := append(bytes.Clone(b), behind...)
	w.wholes, w.kept = append(w.wholes, whole), append(w.kept, string(whole))
	return whole[:len(b)]
}

func (w *ward) nodes(l []api.Node) []api.Node {
	own := make([]api.Node, 0, len(l)+3)
	for _, n := range l {
		own = append(own, api.Node{Hash: n.Hash, Bytes: w.bytes(n.Bytes)})
	}
	return own
}

func (w *ward) entries(l []api.KV) []api.KV {
	own := make([]api.KV, 0, len(l)+3)
	for _, x := range l {
		own = append(own, api.KV{Key: w.bytes(x.Key), Value: w.bytes(x.Value)})
	}
	return own
}

func (w *ward) proof(l [][]byte) [][]byte {
	own := make([][]byte, 0, len(l)+3)
	for _, b := range l {
		own = append(own, w.bytes(b))
	}
	return own
}

// stays: that all of it is as it was.
func (w *ward) stays(t *testing.T) {
	t.Helper()
	for i, whole := range w.wholes {
		if string(whole) != w.kept[i] {
			t.Fatalf("rule 3: %q was changed: %q", w.kept[i], whole)
		}
	}
}

// scribble changes lists, and their spare room.
func scribble(l ...[]byte) {
	for _, b := range l {
		b = b[:cap(b)]
		for i := range b {
			b[i] = '?'
		}
	}
}

// answer: the lists of bytes of an answer, which may be changed.
type answer [][]byte

func (a answer) say() string { return fmt.Sprintf("%x", [][]byte(a)) }

func nodesAnswer(l []api.Node) answer {
	var a answer
	for _, n := range l {
		a = append(a, n.Bytes)
	}
	return a
}

// calls: each of the layer's calls that tells lists of bytes, of what is handed in to it through a ward.
func calls(w *ward, l []api.Node, roots [2]api.Hash, key string, b bound) []func() answer {
	nodes, sought := w.nodes(l), w.bytes([]byte(key))
	least, most := b.hashes()
	told, _ := proof.Prove(l, roots[0], []byte(key))
	taken := w.proof(told)
	return []func() answer{
		func() answer { p, _ := proof.Prove(nodes, roots[0], sought); return p },
		func() answer { v, _, _ := proof.Verify(roots[0], sought, taken); return answer{v} },
		func() answer { p, _ := proof.ProveRange(nodes, roots[0], least, most); return nodesAnswer(p) },
		func() answer {
			found, _ := proof.Entries(nodes, roots[0], sought, 4096)
			var a answer
			for _, x := range found {
				a = append(a, x.Key, x.Value)
			}
			return a
		},
		func() answer {
			found, _ := proof.Differ(nodes, roots[0], roots[1], 4096)
			var a answer
			for _, x := range found {
				a = append(a, x.Key, x.Before, x.After)
			}
			return a
		},
		func() answer {
			found, _ := proof.Walk(nodes, roots[0])
			var a answer
			for _, h := range found {
				a = append(a, bytes.Clone(h[:]))
			}
			clear(found[:cap(found)])
			return a
		},
	}
}

// apart: that what the calls are handed in stays as it is, also when their answers are changed, and that no list of an answer shares memory with another one of it, or of another one.
func apart(t *testing.T, l []api.Node, roots [2]api.Hash, key string, b bound) {
	t.Helper()
	w := &ward{}
	for i, call := range calls(w, l, roots, key, b) {
		first, second := call(), call()
		want := first.say()
		for j := range first {
			scribble(first[j])
			if rest := second[j+1:]; first[j+1:].say() != rest.say() {
				t.Fatalf("rule 3: call %d: two lists of one answer share memory", i)
			}
		}
		first = first[:cap(first)]
		clear(first)
		w.stays(t)
		if second.say() != want || call().say() != want {
			t.Fatalf("rule 3: call %d: two answers share memory", i)
		}
	}
}

// TestApart: also where one node, or one value, is told again and again.
func TestApart(t *testing.T) {
	r := rand.New(rand.NewSource(3))
	for _, m := range worlds() {
		root, l := made(m)
		beside, more := made(shifted(r, m))
		keys := nearAll(m, 10)
		for range 4 {
			apart(t, slices.Concat(l, more), [2]api.Hash{root, beside}, keys[r.Intn(len(keys))], bound{aside(lowest, 1), aside(highest, -1)})
		}
	}
	name, ends := api.Hash{4}, bound{aside(lowest, 5), aside(highest, -1)}
	for _, x := range []api.Item{way("1", hashed(name)), full(hashed(name)), leaf("11", long)} {
		apart(t, []api.Node{{Hash: name, Bytes: encoded(x)}}, [2]api.Hash{name, trie.Empty()}, strings.Repeat("\x11", 8), ends)
	}
	below := nodeOf(leaf("1", long))
	above := nodeOf(full(hashed(below.Hash)))
	other := nodeOf(fork(map[int]api.Item{1: hashed(below.Hash), 2: leaf("1", "x"), 3: leaf("1", "x")}))
	apart(t, []api.Node{below, above, other}, [2]api.Hash{above.Hash, other.Hash}, "\x11", ends)
	apart(t, []api.Node{below, above, other}, [2]api.Hash{above.Hash, trie.Empty()}, "\x31", ends)
	apart(t, []api.Node{below, above, other}, [2]api.Hash{trie.Empty(), above.Hash}, "", ends)
}

// TestVerifiedRangeStays: what VerifyRange is handed in, whatever it says of it.
func TestVerifiedRangeStays(t *testing.T) {
	r := rand.New(rand.NewSource(7))
	for _, m := range rangeWorlds() {
		root, l := made(m)
		for _, b := range bounds(m, r) {
			w := &ward{}
			least, most := b.hashes()
			entries, p := b.of(m), proven(t, l, root, b)
			if r.Intn(2) == 0 {
				entries, p = hurtEntries(r, entries, b), hurtNodes(r, p, l)
			}
			own, nodes := w.entries(entries), w.nodes(p)
			proof.VerifyRange(root, least, most, own, nodes)
			w.stays(t)
			if !sameEntries(own, entries) || !alike(nodes, p) {
				t.Fatal("rule 3: the lists were changed")
			}
		}
	}
}

// TestListsStay: the lists of what is handed in keep their order, and their spare room.
func TestListsStay(t *testing.T) {
	root, nodes := made(map[string]string{"do": "verb", "dog": long, "doge": "coin", "horse": long})
	spare := api.Node{Hash: api.Hash{7}, Bytes: []byte(behind)}
	l := append(slices.Clone(nodes), spare, spare)[:len(nodes)]
	proof.Prove(l, root, []byte("dog"))
	proof.ProveRange(l, root, api.Hash{1}, api.Hash{2})
	proof.Entries(l, root, nil, 4096)
	proof.Walk(l, root)
	proof.Differ(l, root, trie.Empty(), 4096)
	proof.VerifyRange(root, api.Hash{1}, api.Hash{2}, nil, l)
	if !alike(l, nodes) || !alike(l[:len(l)+2][len(l):], []api.Node{spare, spare}) {
		t.Error("rule 3: a list was changed")
	}
	p := proved(t, nodes, root, "dog")
	held := append(slices.Clone(p), []byte(behind))[:len(p)]
	proof.Verify(root, []byte("dog"), held)
	if !same(held[:len(p)+1], append(slices.Clone(p), []byte(behind))) {
		t.Error("rule 3: a proof was changed")
	}
}

// TestVerifyRangeAnything: whatever is handed in, VerifyRange ends, and doesn't panic: nodes that are bytes as they come, under their own hashes, at any depth, with entries that fit to them or not.
func TestVerifyRangeAnything(t *testing.T) {
	seeded(t, 4, func(t *testing.T, r *rand.Rand) {
		told := map[api.Errno]int{}
		for range 3000 {
			l := drawnNodes(r)
			if r.Intn(4) == 0 {
				l = append(l, nodeOf(way(strings.Repeat("1", 1+r.Intn(128)), hashed(l[len(l)-1].Hash))))
			}
			root := l[len(l)-1].Hash
			if r.Intn(4) == 0 {
				i := r.Intn(len(l))
				l[i].Bytes = hurtBytes(r, l[i].Bytes)
			}
			if r.Intn(6) == 0 {
				i := r.Intn(len(l))
				l = slices.Delete(l, i, i+1)
			}
			if r.Intn(20) == 0 {
				root = trie.Empty()
			}
			var entries []api.KV
			for range r.Intn(4) {
				key := bytes.Repeat([]byte{0x11}, 32)
				key[r.Intn(32)], key[r.Intn(3)] = byte(r.Intn(256)), byte(r.Intn(256))
				entries = append(entries, api.KV{Key: key[:32-r.Intn(20)/19], Value: bytes.Repeat([]byte{1}, 1+r.Intn(40))})
			}
			slices.SortFunc(entries, func(x, y api.KV) int { return bytes.Compare(x.Key, y.Key) })
			least, most := api.Hash{byte(r.Intn(20))}, api.Hash(bytes.Repeat([]byte{0xFF - byte(r.Intn(2))}, 32))
			if r.Intn(20) == 0 {
				least, most = most, least
			}
			e := proof.VerifyRange(root, least, most, entries, l)
			told[e]++
			if b := (bound{fmt.Sprintf("%x", least), fmt.Sprintf("%x", most)}); e != verifyByWords(root, b, entries, l) {
				t.Fatalf("P16.4: %d, not %d", e, verifyByWords(root, b, entries, l))
			}
		}
		for _, e := range []api.Errno{api.ErrProofNode, api.ErrProofForm, api.ErrProofMore, api.ErrProofRoot, api.ErrProofKeys} {
			if told[e] < 10 {
				t.Errorf("%d only %d times", e, told[e])
			}
		}
	})
}
