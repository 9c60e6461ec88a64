package proof_test

import (
	"fmt"
	"math/rand"
	"slices"
	"strings"
	"testing"

	"moraine/api"
	"moraine/keccak"
	"moraine/proof"
	"moraine/trie"
)

func alike(a, b []api.Node) bool { return sayNodes(a) == sayNodes(b) }

func TestRangeExamples(t *testing.T) {
	all := bound{lowest, highest}
	for _, m := range rangeWorlds() {
		root, l := made(m)
		if p := proven(t, l, root, all); len(p) != 0 {
			t.Errorf("the chapter's example: %s", sayNodes(p))
		}
		takes(t, root, all, kvs(m), nil, api.OK)
		takes(t, keccak.Sum([]byte("other")), all, kvs(m), nil, api.ErrProofRoot)
		if len(m) > 0 {
			takes(t, trie.Empty(), all, kvs(m), nil, api.ErrProofRoot)
			takes(t, root, all, kvs(m), l[:1], api.ErrProofMore)
			takes(t, root, all, kvs(m)[1:], l[:1], api.ErrProofRoot)
			takes(t, root, all, nil, nil, api.ErrProofRoot)
		}
	}
}

// TestRanges: the nodes are those that are referred to by their hashes at paths that lie across, in order, each once; by them the range's entries are taken.
func TestRanges(t *testing.T) {
	for i, m := range rangeWorlds() {
		t.Run(fmt.Sprint(i), func(t *testing.T) {
			t.Parallel()
			root, l := made(m)
			all := sights(l, root)
			for _, b := range bounds(m, rand.New(rand.NewSource(1))) {
				want := hashes(all, func(s sight) bool { return b.lies(s.path) == "across" })
				p := proven(t, l, root, b)
				if got := hashesOf(p); !slices.Equal(got, want) || !alike(p, pick(l, want)) {
					t.Fatalf("P16.3: ProveRange(%s to %s): %x, not %x", b.least, b.most, got, want)
				}
				takes(t, root, b, b.of(m), p, api.OK)
				slices.Reverse(p)
				takes(t, root, b, b.of(m), p, api.OK)
				if got := proven(t, only(l, want...), root, b); !slices.Equal(hashesOf(got), want) {
					t.Fatalf("P16.3: %x, not %x", hashesOf(got), want)
				}
				for _, at := range someOf(len(want)) {
					refusesRange(t, without(l, want[at]), root, b, api.ErrProofNode)
					refusesRange(t, append([]api.Node{{Hash: want[at]}}, l...), root, b, api.ErrProofForm)
					takes(t, root, b, b.of(m), without(p, want[at]), api.ErrProofNode)
				}
				if b.least < b.most {
					b.least, b.most = b.most, b.least
					refusesRange(t, l, root, b, api.ErrProofKeys)
					takes(t, root, b, nil, p, api.ErrProofKeys)
				}
			}
		})
	}
}

func hashesOf(l []api.Node) []api.Hash {
	var h []api.Hash
	for _, n := range l {
		h = append(h, n.Hash)
	}
	return h
}

// pick: a list's nodes of these hashes, in their order.
func pick(l []api.Node, hashes []api.Hash) []api.Node {
	var p []api.Node
	for _, h := range hashes {
		p = append(p, only(l, h)[0])
	}
	return p
}

// TestRangeOfEmpty: of the root trie.Empty() nothing is needed, whatever stands under it.
func TestRangeOfEmpty(t *testing.T) {
	l := []api.Node{{Hash: trie.Empty(), Bytes: []byte{0x80}}}
	key := api.KV{Key: []byte(unhex(lowest)), Value: []byte("x")}
	for _, b := range []bound{{lowest, highest}, {lowest, lowest}, {lowest, "8" + lowest[1:]}} {
		if p := proven(t, l, trie.Empty(), b); len(p) != 0 {
			t.Errorf("P16.3: %s", sayNodes(p))
		}
		takes(t, trie.Empty(), b, nil, nil, api.OK)
		takes(t, trie.Empty(), b, nil, l, api.ErrProofMore)
		takes(t, trie.Empty(), b, []api.KV{key}, nil, api.ErrProofRoot)
		takes(t, trie.Empty(), b, []api.KV{key}, l, api.ErrProofRoot)
	}
}

// TestRangeKeys: entries that can't be.
func TestRangeKeys(t *testing.T) {
	low, high := unhex(strings.Repeat("22", 32)), unhex(strings.Repeat("dd", 32))
	b := bound{digits(low), digits(high)}
	kv := func(k, v string) api.KV { return api.KV{Key: []byte(k), Value: []byte(v)} }
	mid, long := unhex(strings.Repeat("55", 32)), strings.Repeat("v", 1024)
	m := map[string]string{low: "x", mid: long, high: "y", unhex(lowest): "z"}
	root, l := made(m)
	p := proven(t, l, root, b)
	takes(t, root, b, []api.KV{kv(low, "x"), kv(mid, long), kv(high, "y")}, p, api.OK)
	for _, bad := range [][]api.KV{
		{kv(mid, long), kv(low, "x"), kv(high, "y")}, {kv(low, "x"), kv(mid, long), kv(mid, long), kv(high, "y")}, {kv(low, "x"), kv(low, "other"), kv(mid, long)},
		{kv(low, ""), kv(mid, long), kv(high, "y")}, {kv(low, "x"), kv(mid, long), kv(high, "")}, {kv(low, "x"), kv(mid, long+"v"), kv(high, "y")},
		{kv(unhex(aside(digits(low), -1)), "x")}, {kv(low, "x"), kv(unhex(aside(digits(high), 1)), "x")}, {kv(unhex(lowest), "z"), kv(low, "x")}, {kv(unhex(highest), "z")},
		{kv("", "x")}, {kv(low[:31], "x")}, {kv(low+"\x00", "x")}, {kv(low, "x"), kv(mid+"x", long)}, {kv(low, "x"), kv(mid[:31], long)}, {{}}, {kv(mid, long), {}},
	} {
		takes(t, root, b, bad, p, api.ErrProofKeys)
		takes(t, root, b, bad, nil, api.ErrProofKeys)
		takes(t, trie.Empty(), b, bad, longList(p, 4096), api.ErrProofKeys)
		takes(t, root, b, bad, longList(p, 4097), api.ErrProofMore)
	}
}

// TestRangeBounds: how much is taken, and that this is told ahead of all else.
func TestRangeBounds(t *testing.T) {
	m := rangeWorlds()[3]
	root, l := made(m)
	b, back := bound{lowest, aside(highest, -1)}, bound{highest, lowest}
	p := proven(t, l, root, b)
	if got := proven(t, longList(l, 4096), root, b); !alike(got, p) || len(p) == 0 {
		t.Errorf("P16.3: %s", sayNodes(got))
	}
	refusesRange(t, longList(l, 4097), root, b, api.ErrProofMore)
	refusesRange(t, longList(l, 4097), root, back, api.ErrProofMore)
	refusesRange(t, longList(l, 4096), root, back, api.ErrProofKeys)
	refusesRange(t, longList(nil, 4097), trie.Empty(), bound{lowest, highest}, api.ErrProofMore)
	for n, e := range map[int]api.Errno{257: api.ErrProofKeys, 4096: api.ErrProofKeys, 4097: api.ErrProofMore} {
		takes(t, root, back, nil, longList(p, n), e)
		takes(t, root, b, make([]api.KV, n), p, e)
		takes(t, root, back, make([]api.KV, n), longList(p, n), e)
	}
	takes(t, root, b, b.of(m)[1:], longList(p, 4096), api.ErrProofRoot)
	takes(t, root, b, b.of(m), longList(p, 4096), api.ErrProofMore)
	takes(t, root, b, b.of(m), longList(nil, 257), api.ErrProofNode)
	many := map[string]string{}
	for i := range 4096 {
		many[unhex(fmt.Sprintf("%04x", i*7)+strings.Repeat("5a", 30))] = "v"
	}
	least, most := bound{lowest, highest}.hashes()
	all, _ := made(many)
	if e := proof.VerifyRange(all, least, most, kvs(many), nil); e != api.OK {
		t.Errorf("P16.4: 4096 entries: %d", e)
	}
	many[unhex(highest)] = "v"
	all, _ = made(many)
	if e := proof.VerifyRange(all, least, most, kvs(many), nil); e != api.ErrProofMore {
		t.Errorf("P16.4: 4097 entries: %d", e)
	}
}

// TestRangeHashes: of two nodes with one hash the first one is told, and taken; ProveRange doesn't ask whether a hash is the bytes', VerifyRange does.
func TestRangeHashes(t *testing.T) {
	m := rangeWorlds()[3]
	root, l := made(m)
	b := bound{strings.Repeat("4", 64), strings.Repeat("c", 64)}
	p := proven(t, l, root, b)
	if len(p) < 2 {
		t.Fatal("no such range")
	}
	for i, n := range p {
		other := nodeOf(leaf(strings.Repeat("5", 64-i), "other"))
		other.Hash = n.Hash
		ahead, behind := append([]api.Node{other}, p...), append(slices.Clone(p), other)
		takes(t, root, b, b.of(m), ahead, api.ErrProofRoot)
		takes(t, root, b, b.of(m), behind, api.ErrProofMore)
		takes(t, root, b, b.of(m), append([]api.Node{n}, p...), api.ErrProofMore)
		if got := proven(t, append(slices.Clone(l), other), root, b); !alike(got, p) {
			t.Errorf("P16.3: %s", sayNodes(got))
		}
		got := proven(t, append([]api.Node{other}, l...), root, b)
		if at := slices.IndexFunc(got, func(x api.Node) bool { return x.Hash == n.Hash }); at < 0 || string(got[at].Bytes) != string(other.Bytes) {
			t.Errorf("P16.3: %s", sayNodes(got))
		}
	}
}

// TestRangeNodesAskedTwice: a node that stands at both ends of a range is told once, and what is below it at either end is told, too.
func TestRangeNodesAskedTwice(t *testing.T) {
	m := map[string]string{}
	for _, first := range []string{"1", "2", "e"} {
		for i := range 16 {
			for j := range 4 {
				m[unhex(fmt.Sprintf("%s%x%x%s", first, i, j, strings.Repeat("7", 61)))] = fmt.Sprint(long, i)
			}
		}
	}
	root, l := made(m)
	b := bound{"131" + lowest[3:], "2a2" + lowest[3:]}
	p := proven(t, l, root, b)
	// The root, the one of 1 and 2, that of 3 in it, that of a in it, and the one of 1 and of 2 in these.
	if want := hashes(sights(l, root), func(s sight) bool { return b.lies(s.path) == "across" }); len(p) != len(want) || len(p) < 4 {
		t.Errorf("P16.3: %d nodes, not %d", len(p), len(want))
	}
	takes(t, root, b, b.of(m), p, api.OK)
	for i := range p {
		takes(t, root, b, b.of(m), slices.Delete(slices.Clone(p), i, i+1), api.ErrProofNode)
	}
}

// TestRangeRound: nodes that refer to themselves, by hashes that aren't theirs: ProveRange ends.
func TestRangeRound(t *testing.T) {
	name := api.Hash{1}
	for _, x := range []api.Item{way("0", hashed(name)), way("000", hashed(name)), full(hashed(name)), way(strings.Repeat("0", 64), hashed(name)), way(strings.Repeat("0", 128), hashed(name))} {
		round := api.Node{Hash: name, Bytes: encoded(x)}
		for _, b := range []bound{{lowest, lowest}, {aside(lowest, 1), highest}, {aside(lowest, 1), aside(highest, -1)}, {lowest, aside(lowest, 5)}} {
			if p := proven(t, []api.Node{round}, name, b); !alike(p, []api.Node{round}) {
				t.Errorf("P16.3: %s", sayNodes(p))
			}
			takes(t, name, b, nil, []api.Node{round}, api.ErrProofRoot)
		}
	}
}

// TestRangeForms: nodes with their own hashes that are none, go on too far, or have a value elsewhere; what is outside isn't looked at, and what is inside must be as a map has it.
func TestRangeForms(t *testing.T) {
	prefix := strings.Repeat("5", 62)
	b := bound{prefix + "22", prefix + "dd"}
	key := func(end string) api.KV { return api.KV{Key: []byte(unhex(prefix + end)), Value: []byte("x")} }
	short := leaf("", "x")
	both := func(i, j int) api.Item { return fork(map[int]api.Item{i: short, j: short}) }
	for i, c := range []struct {
		top     api.Item // what stands at the prefix
		entries []api.KV
		want    api.Errno
	}{
		{leaf("55", "x"), []api.KV{key("55")}, api.OK}, {leaf("55", "x"), nil, api.ErrProofRoot}, {leaf("55", "y"), []api.KV{key("55")}, api.ErrProofRoot}, {leaf("55", "x"), []api.KV{key("56")}, api.ErrProofRoot},
		{leaf("55", "x"), []api.KV{key("55"), key("56")}, api.ErrProofRoot}, {leaf("11", "x"), nil, api.OK}, {leaf("11", "x"), []api.KV{key("22")}, api.ErrProofRoot}, {leaf("ee", strings.Repeat("x", 1025)), nil, api.OK},
		{leaf("5", "x"), nil, api.ErrProofForm}, {leaf("", "x"), nil, api.ErrProofForm}, {leaf("555", "x"), nil, api.ErrProofForm}, {leaf("1", "x"), []api.KV{key("55")}, api.ErrProofForm}, {leaf("e111", "x"), nil, api.ErrProofForm},
		{way("111", short), nil, api.ErrProofForm}, {way("555", short), []api.KV{key("66")}, api.ErrProofForm}, {way("5", leaf("5", "x")), nil, api.ErrProofRoot}, {way("5", leaf("5", "x")), []api.KV{key("55")}, api.OK},
		{way("5", leaf("5", "x")), []api.KV{key("66")}, api.ErrProofRoot}, {way("1", leaf("5", "x")), nil, api.OK}, {way("1", leaf("555", "x")), nil, api.OK}, {way("1", hashed(api.Hash{9})), nil, api.OK}, {way("1", hashed(api.Hash{9})), []api.KV{key("22")}, api.ErrProofRoot},
		{way("2", hashed(api.Hash{9})), nil, api.ErrProofNode}, {way("2", hashed(api.Hash{9})), []api.KV{key("33")}, api.ErrProofRoot}, {way("2", hashed(api.Hash{9})), []api.KV{key("22")}, api.ErrProofNode}, {way("5", hashed(api.Hash{9})), nil, api.ErrProofRoot},
		{way("2", leaf("1", "x")), nil, api.OK}, {way("2", leaf("2", "x")), []api.KV{key("22")}, api.OK}, {way("2", leaf("2", "x")), nil, api.ErrProofRoot}, {way("2", leaf("", "x")), nil, api.ErrProofForm}, {way("2", leaf("11", "x")), nil, api.ErrProofForm},
		{way("22", short), []api.KV{key("22")}, api.OK}, {way("22", short), nil, api.ErrProofRoot}, {way("22", byHash(short)), []api.KV{key("22")}, api.ErrProofRoot}, {way("21", byHash(short)), nil, api.OK}, {way("22", leaf("1", "x")), []api.KV{key("22")}, api.ErrProofRoot},
		{way("2", both(1, 2)), []api.KV{key("22")}, api.OK}, {way("2", both(1, 2)), nil, api.ErrProofRoot}, {way("2", both(1, 2)), []api.KV{key("22"), key("23")}, api.ErrProofRoot}, {way("2", both(0, 1)), []api.KV{key("23")}, api.ErrProofRoot},
		{way("2", fork(map[int]api.Item{2: short, 16: text("x")})), []api.KV{key("22")}, api.ErrProofForm}, {way("1", fork(map[int]api.Item{2: short, 16: text("x")})), nil, api.OK},
		{fork(map[int]api.Item{5: leaf("5", "x"), 16: text("x")}), []api.KV{key("55")}, api.ErrProofForm}, {fork(map[int]api.Item{5: leaf("5", "x"), 1: leaf("555", "x")}), []api.KV{key("55")}, api.OK},
		{fork(map[int]api.Item{5: leaf("5", "x"), 1: hashed(api.Hash{9})}), []api.KV{key("55")}, api.OK}, {fork(map[int]api.Item{5: leaf("5", "x"), 2: hashed(api.Hash{9})}), []api.KV{key("55")}, api.ErrProofNode},
		{fork(map[int]api.Item{5: byHash(leaf("5", "x")), 1: short}), []api.KV{key("55")}, api.ErrProofRoot}, {fork(map[int]api.Item{5: leaf("", "x"), 1: short}), []api.KV{key("55")}, api.ErrProofRoot},
		{fork(map[int]api.Item{5: leaf("5", "x"), 13: way("1", leaf("", "x"))}), []api.KV{key("55"), key("d1")}, api.OK}, {fork(map[int]api.Item{5: leaf("5", "x"), 13: way("1", leaf("2", "x"))}), []api.KV{key("55"), key("d1")}, api.ErrProofRoot},
		// Which one is told first: a missing node of a lower nibble ahead of an entry that nothing holds; a list's own value ahead of what it refers to; a path that is too long ahead of what stands beside it.
		{fork(map[int]api.Item{2: hashed(api.Hash{9}), 14: short}), []api.KV{key("55")}, api.ErrProofNode}, {fork(map[int]api.Item{13: hashed(api.Hash{9}), 14: short}), []api.KV{key("55")}, api.ErrProofRoot},
		{fork(map[int]api.Item{2: hashed(api.Hash{9}), 16: text("x")}), []api.KV{key("55")}, api.ErrProofForm}, {fork(map[int]api.Item{2: leaf("", "x"), 13: hashed(api.Hash{9})}), nil, api.ErrProofForm},
		{fork(map[int]api.Item{2: hashed(api.Hash{9}), 13: leaf("", "x")}), nil, api.ErrProofNode}, {fork(map[int]api.Item{2: leaf("5", "x"), 13: hashed(api.Hash{9})}), nil, api.ErrProofRoot},
		{fork(map[int]api.Item{2: leaf("5", "x"), 13: hashed(api.Hash{9})}), []api.KV{key("25")}, api.ErrProofNode}, {way("2", way("22", short)), []api.KV{key("33")}, api.ErrProofRoot}, {way("2", way("22", short)), nil, api.ErrProofForm},
	} {
		below := nodeOf(c.top)
		above := nodeOf(way(prefix, hashed(below.Hash)))
		takes(t, above.Hash, b, c.entries, []api.Node{above, below}, c.want)
		takes(t, above.Hash, b, c.entries, []api.Node{below, above}, c.want)
		if c.want == api.OK {
			takes(t, above.Hash, b, c.entries, []api.Node{below, above, below}, api.ErrProofMore)
		} else {
			takes(t, above.Hash, b, c.entries, []api.Node{below, above, below}, c.want)
		}
		takes(t, above.Hash, b, c.entries, []api.Node{above}, api.ErrProofNode)
		if len(encoded(c.top)) < 32 {
			above = nodeOf(way(prefix, c.top))
			takes(t, above.Hash, b, c.entries, []api.Node{above}, c.want)
		}
		if t.Failed() {
			t.Fatal(i)
		}
	}
	for _, junk := range [][]byte{nil, {0xC0}, []byte("junk"), encoded(list(text("a"), text("b"))), make([]byte, 70000)} {
		n := api.Node{Hash: keccak.Sum(junk), Bytes: junk}
		above := nodeOf(way("5", hashed(n.Hash)))
		b := bound{"55" + lowest[2:], "5a" + lowest[2:]}
		takes(t, n.Hash, b, nil, []api.Node{n}, api.ErrProofForm)
		takes(t, above.Hash, b, nil, []api.Node{above, n}, api.ErrProofForm)
		takes(t, above.Hash, b, nil, []api.Node{above, {Hash: n.Hash, Bytes: []byte("other")}}, api.ErrProofRoot)
		takes(t, above.Hash, bound{"6" + lowest[1:], highest}, nil, []api.Node{above}, api.OK)
		takes(t, above.Hash, bound{"6" + lowest[1:], highest}, nil, []api.Node{above, n}, api.ErrProofMore)
		refusesRange(t, []api.Node{above, n}, above.Hash, b, api.ErrProofForm)
		if p := proven(t, []api.Node{above, n}, above.Hash, bound{"6" + lowest[1:], highest}); !alike(p, []api.Node{above}) {
			t.Errorf("P16.3: %s", sayNodes(p))
		}
	}
}

// hurtEntries: with one left out, added, changed, moved, or none.
func hurtEntries(r *rand.Rand, l []api.KV, b bound) []api.KV {
	l = slices.Clone(l)
	if len(l) == 0 || r.Intn(4) == 0 {
		d := []string{b.least, b.most, aside(b.least, 1), aside(b.most, -1)}[r.Intn(4)]
		if len(l) > 0 && r.Intn(3) > 0 {
			d = aside(digits(string(l[r.Intn(len(l))].Key)), []int64{1, -1, 16, -16, 4096}[r.Intn(5)])
		}
		l = append(l, api.KV{Key: []byte(unhex(d)), Value: []byte("added")})
		if r.Intn(8) > 0 {
			slices.SortFunc(l, func(x, y api.KV) int { return strings.Compare(string(x.Key), string(y.Key)) })
		}
		return l
	}
	i, j := r.Intn(len(l)), r.Intn(len(l))
	switch r.Intn(12) {
	case 0, 1, 2, 3:
		return slices.Delete(l, i, i+1)
	case 4:
		l[i], l[j] = l[j], l[i]
	case 5:
		l[i].Value = nil
	case 6:
		l[i].Value = make([]byte, 1024+r.Intn(2))
	case 7:
		l[i].Key = hurtBytes(r, l[i].Key)
	case 8:
		return slices.Insert(l, i, l[j])
	default:
		l[i].Value = hurtBytes(r, l[i].Value)
	}
	return l
}

// hurtNodes: with one left out, one more, or one's bytes or hash another one's.
func hurtNodes(r *rand.Rand, p, l []api.Node) []api.Node {
	p = slices.Clone(p)
	if len(l) == 0 {
		return p
	}
	if len(p) == 0 || r.Intn(5) == 0 {
		return slices.Insert(p, r.Intn(len(p)+1), l[r.Intn(len(l))])
	}
	i, j := r.Intn(len(p)), r.Intn(len(p))
	switch r.Intn(6) {
	case 0:
		p[i].Hash = l[r.Intn(len(l))].Hash
	case 1:
		p[i].Bytes = l[r.Intn(len(l))].Bytes
	case 2:
		p[i].Bytes = hurtBytes(r, p[i].Bytes)
	case 3:
		p[i], p[j] = p[j], p[i]
	default:
		return slices.Delete(p, i, i+1)
	}
	return p
}

// sameEntries: whether two lists have the same entries.
func sameEntries(a, b []api.KV) bool { return sayEntries(a) == sayEntries(b) }

// TestHurtRanges: entries and nodes with this and that done to them: what is told is what the words say; with the right nodes no other entries are taken.
func TestHurtRanges(t *testing.T) {
	seeded(t, 8, func(t *testing.T, r *rand.Rand) {
		told := map[api.Errno]int{}
		for _, m := range rangeWorlds() {
			root, l := made(m)
			for _, b := range bounds(m, r) {
				right, p := b.of(m), proven(t, l, root, b)
				entries, nodes, asked := right, p, root
				for range r.Intn(3) {
					entries = hurtEntries(r, entries, b)
				}
				least, most := b.hashes()
				if e := proof.VerifyRange(root, least, most, entries, p); e == api.OK != sameEntries(entries, right) {
					t.Fatalf("P16.7: %d; the entries\n%s, not\n%s", e, sayEntries(entries), sayEntries(right))
				}
				for range r.Intn(3) {
					nodes = hurtNodes(r, nodes, l)
				}
				if len(l) > 0 && r.Intn(8) == 0 {
					asked = l[r.Intn(len(l))].Hash
				}
				want := verifyByWords(asked, b, entries, nodes)
				takes(t, asked, b, entries, nodes, want)
				told[want]++
				if want == api.OK && asked == root && !sameEntries(entries, right) {
					t.Fatalf("P16.7: the entries\n%s, not\n%s", sayEntries(entries), sayEntries(right))
				}
			}
		}
		for _, e := range []api.Errno{api.OK, api.ErrProofNode, api.ErrProofMore, api.ErrProofRoot, api.ErrProofKeys} {
			if told[e] < 10 {
				t.Errorf("%d only %d times", e, told[e])
			}
		}
	})
}

// TestOddRanges: nodes as no map has them, near the ends of keys, with their own hashes: what is told is what the words say, also where there is more than one thing to be told.
func TestOddRanges(t *testing.T) {
	seeded(t, 8, func(t *testing.T, r *rand.Rand) {
		told := map[api.Errno]int{}
		for range 1500 {
			prefix := strings.Repeat("1", 58+r.Intn(5))
			l := []api.Node{nodeOf(leaf("", "x"))}
			drawn := func() api.Item {
				if r.Intn(12) == 0 {
					return hashed(api.Hash{byte(r.Intn(256))})
				}
				return hashed(l[r.Intn(len(l))].Hash)
			}
			for range 1 + r.Intn(5) {
				l = append(l, nodeOf(oddNode(r, 2, drawn)))
			}
			top := nodeOf(way(prefix, hashed(l[len(l)-1].Hash)))
			l = append(l, top)
			ends := func() string {
				d := prefix
				for len(d) < 64 {
					d += []string{"0", "1", "2", "2", "f"}[r.Intn(5)]
				}
				return d
			}
			b := bound{ends(), ends()}
			if b.most < b.least {
				b.least, b.most = b.most, b.least
			}
			// What the trie has in the range, where it is one of whole keys; now and then with something done to it.
			m := map[string]string{}
			for _, s := range sights(l, top.Hash) {
				if len(s.end) == 64 && s.value != "" && b.lies(s.end) == "in" {
					m[unhex(s.end)] = s.value
				}
			}
			entries := kvs(m)
			if r.Intn(2) == 0 {
				entries = hurtEntries(r, entries, b)
			}
			nodes := l
			if least, most := b.hashes(); r.Intn(3) > 0 {
				if p, e := proof.ProveRange(l, top.Hash, least, most); e == api.OK {
					nodes = p
				}
			}
			want := verifyByWords(top.Hash, b, entries, nodes)
			takes(t, top.Hash, b, entries, nodes, want)
			told[want]++
		}
		for _, e := range []api.Errno{api.OK, api.ErrProofNode, api.ErrProofForm, api.ErrProofMore, api.ErrProofRoot} {
			if told[e] < 10 {
				t.Errorf("%d only %d times", e, told[e])
			}
		}
	})
}
