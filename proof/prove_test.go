package proof_test

import (
	"bytes"
	"fmt"
	"maps"
	"math/rand"
	"slices"
	"strings"
	"testing"

	"moraine/api"
	"moraine/keccak"
	"moraine/proof"
	"moraine/trie"
)

// same: whether two proofs have the same nodes.
func same(a, b [][]byte) bool { return slices.EqualFunc(a, b, bytes.Equal) }

// proved: what Prove tells, which is to be no error.
func proved(t *testing.T, l []api.Node, root api.Hash, key string) [][]byte {
	t.Helper()
	p, e := proof.Prove(l, root, []byte(key))
	if e != api.OK {
		t.Fatalf("P16.1: Prove(%x): %d", key, e)
	}
	return p
}

// verifies: that Verify answers that.
func verifies(t *testing.T, root api.Hash, key string, p [][]byte, value string, want api.Errno) {
	t.Helper()
	v, ok, e := proof.Verify(root, []byte(key), p)
	if string(v) != value || ok != (value != "") || e != want {
		t.Fatalf("P16.2: Verify(%x): %.20x, %v, %d, not %.20x, %d", key, v, ok, e, value, want)
	}
}

// refuses: that Prove answers that error, and nothing beside it.
func refuses(t *testing.T, l []api.Node, root api.Hash, key string, want api.Errno) {
	t.Helper()
	if p, e := proof.Prove(l, root, []byte(key)); len(p) != 0 || e != want {
		t.Fatalf("P16.1: Prove(%x): %d nodes, %d, not %d", key, len(p), e, want)
	}
}

func TestProveExamples(t *testing.T) {
	for _, key := range []string{"", "k", strings.Repeat("k", 64)} {
		if p := proved(t, nil, trie.Empty(), key); len(p) != 0 {
			t.Errorf("the chapter's example: %x", p)
		}
		verifies(t, trie.Empty(), key, nil, "", api.OK)
		verifies(t, trie.Empty(), key, [][]byte{{0x80}}, "", api.ErrProofMore)
	}
	root, l := made(map[string]string{"k": "x"})
	only := [][]byte{encoded(leaf(digits("k"), "x"))}
	if p := proved(t, l, root, "k"); !same(p, only) {
		t.Errorf("the chapter's example: %x", p)
	}
	verifies(t, root, "k", only, "x", api.OK)
	verifies(t, root, "j", only, "", api.OK)
}

// TestProve: of keys that are there and of those near them: the nodes at the beginnings of the key's path, as trie.Get needs them, and what Verify says of them.
func TestProve(t *testing.T) {
	for _, m := range worlds() {
		root, l := made(m)
		all := sights(l, root)
		x := trie.New(root, l)
		for _, key := range nearAll(m, 150) {
			if len(key) > 64 {
				refuses(t, l, root, key, api.ErrTrieKey)
				continue
			}
			var want [][]byte
			for _, s := range all {
				if s.byHash && strings.HasPrefix(digits(key), s.path) {
					want = append(want, s.code)
				}
			}
			p := proved(t, l, root, key)
			if !same(p, want) {
				t.Fatalf("P16.1: Prove(%x) of %q: %x, not %x", key, m, p, want)
			}
			verifies(t, root, key, p, m[key], api.OK)
			v, ok, e := x.Get([]byte(key))
			if string(v) != m[key] || ok != (m[key] != "") || e != api.OK {
				t.Fatalf("P16.6: Get(%x): %x", key, v)
			}
		}
	}
}

// TestProofIsHurt: one byte of a node changed, a node left out, one more, two that change places, the root of another trie.
func TestProofIsHurt(t *testing.T) {
	for _, m := range worlds() {
		root, l := made(m)
		for _, key := range nearAll(m, 30) {
			if len(key) > 64 {
				verifies(t, root, key, nil, "", api.ErrTrieKey)
				continue
			}
			p := proved(t, l, root, key)
			for _, i := range someOf(len(p)) {
				for _, at := range []int{0, len(p[i]) / 2, len(p[i]) - 1} {
					bad := slices.Clone(p)
					bad[i] = bytes.Clone(p[i])
					bad[i][at] ^= 1
					verifies(t, root, key, bad, "", api.ErrProofRoot)
				}
				want := api.ErrProofRoot
				if i == len(p)-1 {
					want = api.ErrProofNode
				}
				verifies(t, root, key, slices.Delete(slices.Clone(p), i, i+1), "", want)
				verifies(t, root, key, p[:i], "", api.ErrProofNode)
				verifies(t, root, key, slices.Insert(slices.Clone(p), i, []byte("more")), "", api.ErrProofRoot)
				verifies(t, root, key, slices.Insert(slices.Clone(p), i, nil), "", api.ErrProofRoot)
				if i > 0 {
					bad := slices.Clone(p)
					bad[i-1], bad[i] = bad[i], bad[i-1]
					verifies(t, root, key, bad, "", api.ErrProofRoot)
				}
			}
			for _, more := range [][]byte{nil, []byte("more"), {0x80}, encoded(leaf("", "x"))} {
				verifies(t, root, key, append(slices.Clone(p), more), "", api.ErrProofMore)
			}
			if len(p) > 0 {
				verifies(t, root, key, append(slices.Clone(p), p[0]), "", api.ErrProofMore)
				verifies(t, keccak.Sum([]byte("other")), key, p, "", api.ErrProofRoot)
				verifies(t, trie.Empty(), key, p, "", api.ErrProofMore)
			}
			verifies(t, keccak.Sum([]byte("other")), key, nil, "", api.ErrProofNode)
		}
	}
}

// TestProofOfNoNodes: bytes with the right hash that are no node; ahead of that, and behind it.
func TestProofOfNoNodes(t *testing.T) {
	for _, junk := range [][]byte{nil, {0}, {0xC0}, []byte("junk"), encoded(list(text("a"), text("b"))), encoded(fork(map[int]api.Item{3: leaf("", "x")})), bytes.Repeat([]byte{7}, 70000), append(encoded(leaf("", "x")), 0)} {
		h := keccak.Sum(junk)
		verifies(t, h, "k", [][]byte{junk}, "", api.ErrProofForm)
		verifies(t, h, "k", [][]byte{junk, junk}, "", api.ErrProofForm)
		refuses(t, []api.Node{{Hash: h, Bytes: junk}}, h, "k", api.ErrProofForm)
		above := nodeOf(way("6", hashed(h)))
		verifies(t, above.Hash, "k", [][]byte{above.Bytes, junk}, "", api.ErrProofForm)
		verifies(t, above.Hash, "k", [][]byte{above.Bytes, junk, junk}, "", api.ErrProofForm)
		verifies(t, above.Hash, "k", [][]byte{above.Bytes, append(bytes.Clone(junk), 0)}, "", api.ErrProofRoot)
		verifies(t, above.Hash, "k", [][]byte{above.Bytes}, "", api.ErrProofNode)
		verifies(t, above.Hash, "\x7B", [][]byte{above.Bytes}, "", api.OK)
		verifies(t, above.Hash, "\x7B", [][]byte{above.Bytes, junk}, "", api.ErrProofMore)
		refuses(t, []api.Node{above, {Hash: h, Bytes: junk}}, above.Hash, "k", api.ErrProofForm)
		refuses(t, []api.Node{above}, above.Hash, "k", api.ErrProofNode)
		if p := proved(t, []api.Node{above, {Hash: h, Bytes: junk}}, above.Hash, "\x7B"); !same(p, [][]byte{above.Bytes}) {
			t.Errorf("P16.1: %x", p)
		}
	}
	refuses(t, nil, api.Hash{}, "", api.ErrProofNode)
	// Of a trie whose root is another one Empty() is a hash like others.
	above := nodeOf(way("6", hashed(trie.Empty())))
	refuses(t, []api.Node{above}, above.Hash, "k", api.ErrProofNode)
	verifies(t, above.Hash, "k", [][]byte{above.Bytes, {0x80}}, "", api.ErrProofForm)
}

// TestProveMissing: a node that is needed isn't there; those that aren't needed may be away.
func TestProveMissing(t *testing.T) {
	for _, m := range worlds() {
		root, l := made(m)
		all := sights(l, root)
		for _, key := range nearAll(m, 20) {
			if len(key) > 64 {
				continue
			}
			p := proved(t, l, root, key)
			needed := hashes(all, func(s sight) bool { return strings.HasPrefix(digits(key), s.path) })
			if got := proved(t, only(l, needed...), root, key); !same(got, p) {
				t.Fatalf("P16.1: %x, not %x", got, p)
			}
			for _, i := range someOf(len(needed)) {
				h := needed[i]
				refuses(t, without(l, h), root, key, api.ErrProofNode)
				refuses(t, append([]api.Node{{Hash: h, Bytes: []byte("junk")}}, l...), root, key, api.ErrProofForm)
			}
		}
	}
}

// TestProveHashes: of two nodes with one hash the first one is told; whether a hash is the bytes' isn't asked.
func TestProveHashes(t *testing.T) {
	name := func(x byte) api.Hash { return api.Hash{x} }
	one, two := encoded(leaf("", "one")), encoded(leaf("", "two"))
	l := []api.Node{{Hash: name(3), Bytes: []byte("junk")}, {Hash: name(2), Bytes: one}, {Hash: name(2), Bytes: two}, {Hash: name(1), Bytes: encoded(way("11", hashed(name(2))))}, {Hash: name(1)}}
	for key, n := range map[string]int{"\x11": 2, "\x12": 1, "": 1, "\x11\x11": 2} {
		if p := proved(t, l, name(1), key); len(p) != n || !bytes.Equal(p[0], l[3].Bytes) || n == 2 && !bytes.Equal(p[1], one) {
			t.Errorf("P16.1: %x", p)
		}
	}
	// A node that refers to itself is needed again and again.
	round := api.Node{Hash: name(4), Bytes: encoded(way("1", hashed(name(4))))}
	for _, n := range []int{0, 1, 5, 64} {
		if p := proved(t, []api.Node{round}, name(4), strings.Repeat("\x11", n)); len(p) != 2*n+1 || !bytes.Equal(p[2*n], round.Bytes) {
			t.Errorf("P16.1: %d nodes", len(p))
		}
	}
	root, nodes := made(map[string]string{"a": long, "b": long})
	twice := slices.Concat([]api.Node{{Hash: root, Bytes: one}}, nodes)
	if p := proved(t, twice, root, ""); !same(p, [][]byte{one}) {
		t.Errorf("P16.1: %x", p)
	}
}

// TestProofBounds: how much is taken, and that this is told ahead of all else.
func TestProofBounds(t *testing.T) {
	m := map[string]string{"k": "x", "l": long, "m": long}
	root, l := made(m)
	want := proved(t, l, root, "l")
	if got := proved(t, longList(l, 4096), root, "l"); !same(got, want) {
		t.Errorf("P16.1: %x", got)
	}
	tooLong := strings.Repeat("k", 65)
	refuses(t, longList(l, 4097), root, "l", api.ErrProofMore)
	refuses(t, longList(nil, 4097), root, tooLong, api.ErrProofMore)
	refuses(t, longList(nil, 4097), trie.Empty(), "", api.ErrProofMore)
	refuses(t, longList(nil, 4096), root, tooLong, api.ErrTrieKey)
	refuses(t, nil, trie.Empty(), tooLong, api.ErrTrieKey)
	for n, e := range map[int]api.Errno{256: api.ErrTrieKey, 257: api.ErrProofMore} {
		verifies(t, trie.Empty(), tooLong, make([][]byte, n), "", e)
		verifies(t, root, tooLong, make([][]byte, n), "", e)
	}
	verifies(t, trie.Empty(), "", make([][]byte, 257), "", api.ErrProofMore)
	verifies(t, root, "k", make([][]byte, 256), "", api.ErrProofRoot)
	verifies(t, root, "k", make([][]byte, 257), "", api.ErrProofMore)
	full := slices.Concat(want, make([][]byte, 256-len(want)))
	verifies(t, root, "l", full, "", api.ErrProofMore)
}

// TestLongestProof: of a key of 64 bytes that parts from others at each nibble.
func TestLongestProof(t *testing.T) {
	key := strings.Repeat("\x5A", 64)
	m := map[string]string{key: long}
	for i := range 64 {
		m[key[:i]+"\xFA"+key[i+1:]] = long
		m[key[:i]+"\x5F"+key[i+1:]] = "x"
	}
	root, l := made(m)
	p := proved(t, l, root, key)
	if len(p) != 129 {
		t.Fatalf("P16.1: %d nodes", len(p))
	}
	verifies(t, root, key, p, long, api.OK)
	refuses(t, l, root, key+"x", api.ErrTrieKey)
	verifies(t, root, key+"x", p, "", api.ErrTrieKey)
	verifies(t, root, key[:63], p[:127], "", api.OK)
}

// TestProofOfOddNodes: nodes that no map has are taken as trie.Get takes them: paths above paths and above leaves, short ones by their hashes, values where no key ends, great values.
func TestProofOfOddNodes(t *testing.T) {
	great := strings.Repeat("v", 60000)
	short := leaf("", "x")
	for _, c := range []struct {
		items []api.Item // the first one is the root's
		keys  map[string]string
	}{
		{[]api.Item{way("1", byHash(short)), short}, map[string]string{"\x10": "", "": "", "\x20": ""}},
		{[]api.Item{way("11", byHash(short)), short}, map[string]string{"\x11": "x", "\x11\x11": "", "\x10": ""}},
		{[]api.Item{way("1", way("1", way("12", leaf("3", "x"))))}, map[string]string{"\x11\x12\x30": "", "\x11\x12\x3F": ""}},
		{[]api.Item{way("1", way("1", way("12", leaf("34", "x"))))}, map[string]string{"\x11\x12\x34": "x", "\x11\x12\x35": "", "\x11\x12\x34\x00": "", "\x11\x12": ""}},
		{[]api.Item{fork(map[int]api.Item{1: byHash(short), 16: text(great)}), short}, map[string]string{"": great, "\x11": "", "\x10": ""}},
		{[]api.Item{fork(map[int]api.Item{1: byHash(leaf("1", great)), 2: way("2", short), 16: text("e")}), leaf("1", great)}, map[string]string{"": "e", "\x11": great, "\x22": "x", "\x21": "", "\x31": ""}},
	} {
		var l []api.Node
		for _, x := range c.items {
			l = append(l, nodeOf(x))
		}
		root := l[0].Hash
		for key, want := range c.keys {
			verifies(t, root, key, proved(t, l, root, key), want, api.OK)
			if v, ok, e := trie.New(root, l).Get([]byte(key)); string(v) != want || ok != (want != "") || e != api.OK {
				t.Errorf("P14.4: Get(%x): %.20x, %d", key, v, e)
			}
		}
	}
}

// TestTakenProofs: whatever is done to a proof: if it is taken, it tells what the trie has.
func TestTakenProofs(t *testing.T) {
	seeded(t, 8, func(t *testing.T, r *rand.Rand) {
		for _, m := range worlds() {
			root, l := made(m)
			other, more := made(map[string]string{"other": long, "k": "x"})
			keys := nearAll(m, 100)
			for range 60 {
				key := keys[r.Intn(len(keys))]
				if len(key) > 64 {
					continue
				}
				p := proved(t, l, root, key)
				for range 1 + r.Intn(3) {
					p = hurtProof(r, p, append(slices.Clone(l), more...))
				}
				asked := []api.Hash{root, root, root, other}[r.Intn(4)]
				v, ok, e := proof.Verify(asked, []byte(key), p)
				switch {
				case e != api.OK && (len(v) != 0 || ok):
					t.Fatalf("P16.2: %x, %v beside %d", v, ok, e)
				case e == api.OK && asked == root && (string(v) != m[key] || ok != (m[key] != "")):
					t.Fatalf("P16.6: %x: %x, not %x", key, v, m[key])
				case e == api.OK && asked == other && (key == "k") != ok:
					t.Fatalf("P16.6: %x: %x", key, v)
				}
			}
		}
	})
}

// hurtProof: a proof with one thing about it done another way.
func hurtProof(r *rand.Rand, p [][]byte, l []api.Node) [][]byte {
	p = slices.Clone(p)
	if len(p) == 0 || r.Intn(4) == 0 {
		if len(l) == 0 {
			return p
		}
		return slices.Insert(p, r.Intn(len(p)+1), l[r.Intn(len(l))].Bytes)
	}
	i, j := r.Intn(len(p)), r.Intn(len(p))
	switch r.Intn(4) {
	case 0:
		p[i], p[j] = p[j], p[i]
	case 1:
		p = slices.Delete(p, i, i+1)
	case 2:
		p[i] = hurtBytes(r, p[i])
	default:
		p = p[:i]
	}
	return p
}

// hurtBytes: with a byte changed, left out, or one more.
func hurtBytes(r *rand.Rand, b []byte) []byte {
	b = bytes.Clone(b)
	at := r.Intn(len(b) + 1)
	switch {
	case at == len(b) || r.Intn(4) == 0:
		return slices.Insert(b, at, byte(r.Intn(256)))
	case r.Intn(4) == 0:
		return slices.Delete(b, at, at+1)
	}
	b[at] ^= byte(1 + r.Intn(255))
	return b
}

// TestVerifyAnything: whatever is handed in, Verify ends, and doesn't panic: nodes that are bytes as they come, deep ones, nodes within nodes, under their own hashes.
func TestVerifyAnything(t *testing.T) {
	seeded(t, 4, func(t *testing.T, r *rand.Rand) {
		told := map[api.Errno]int{}
		for range 4000 {
			var p [][]byte
			below := hashed(api.Hash{1})
			for range r.Intn(5) {
				x := oddNode(r, 3, func() api.Item { return below })
				b := encoded(x)
				if r.Intn(5) == 0 {
					b = hurtBytes(r, b)
				}
				below = hashed(keccak.Sum(b))
				p = slices.Insert(p, 0, b)
			}
			root := api.Hash(below.Bytes)
			key := bytes.Repeat([]byte{0x11}, r.Intn(66))
			for i := range key {
				if r.Intn(3) == 0 {
					key[i] = byte(r.Intn(3))<<4 | byte(r.Intn(3))
				}
			}
			_, _, e := proof.Verify(root, key, p)
			told[e]++
		}
		for _, e := range []api.Errno{api.OK, api.ErrProofNode, api.ErrProofForm, api.ErrProofMore, api.ErrTrieKey} {
			if told[e] < 5 {
				t.Errorf("%d only %d times: %v", e, told[e], fmt.Sprint(maps.Collect(maps.All(told))))
			}
		}
	})
}

// oddNode: a node that trie.Check takes, and that a map may have or not; what it refers to by hash is drawn from below.
func oddNode(r *rand.Rand, depth int, below func() api.Item) api.Item {
	ref := func() api.Item {
		if depth > 0 && r.Intn(2) == 0 {
			if x := oddNode(r, depth-1, below); len(encoded(x)) < 32 {
				return x
			}
		}
		return below()
	}
	path := ""
	for range 1 + r.Intn(3) {
		path += fmt.Sprint(r.Intn(3))
	}
	value := strings.Repeat(fmt.Sprint(r.Intn(3)), []int{1, 2, 5, 33}[r.Intn(4)])
	switch r.Intn(6) {
	case 0, 1:
		return leaf(path[r.Intn(2):], value)
	case 2:
		return way(path, ref())
	}
	x := fork(map[int]api.Item{r.Intn(2): ref(), 2: ref()})
	if r.Intn(2) == 0 {
		x.Items[16] = text(value)
	}
	if r.Intn(2) == 0 {
		x.Items[r.Intn(2)] = ref()
	}
	return x
}
