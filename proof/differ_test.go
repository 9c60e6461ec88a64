package proof_test

import (
	"fmt"
	"maps"
	"math/rand"
	"slices"
	"strings"
	"testing"

	"moraine/api"
	"moraine/proof"
	"moraine/rlp"
	"moraine/trie"
)

// event: what a walk through two tries meets at a path: first what one refers to there, then what the other one does, then their values.
type event struct {
	path  string
	turn  int // 0, 1, 2
	errno api.Errno
	value [2]string
}

// looked: the sights of a trie that must be looked at beside another trie: those at and ahead of whose paths the other one never has the same reference.
func looked(all, beside []sight) []sight {
	refs := map[string]string{}
	for _, s := range beside {
		refs[s.path] = s.ref
	}
	skipped := "none"
	var l []sight
	for _, s := range all {
		if !strings.HasPrefix(s.path, skipped) && refs[s.path] == s.ref {
			skipped = s.path
		}
		// A path of another length that is too long is told ahead of what stands at its end.
		if !strings.HasPrefix(s.path, skipped) || len(s.path) > 129 && len(skipped) > 129 {
			l = append(l, s)
		}
	}
	return l
}

// eventsOf: what the sights of the tries tell, in order.
func eventsOf(tries [2][]sight) []event {
	var l []event
	values := map[string][2]string{}
	for turn, all := range tries {
		for _, s := range all {
			switch {
			case len(s.path) > 128:
				l = append(l, event{path: s.path[:129], turn: turn, errno: api.ErrProofForm})
			case s.flaw != api.OK:
				l = append(l, event{path: s.path, turn: turn, errno: s.flaw})
			case s.value != "" && len(s.end) > 128:
				l = append(l, event{path: s.end[:129], turn: turn, errno: api.ErrProofForm})
			case s.value != "":
				pair := values[s.end]
				pair[turn] = s.value
				values[s.end] = pair
			}
		}
	}
	for path, pair := range values {
		x := event{path: path, turn: 2, value: pair}
		if len(path)%2 == 1 {
			x.errno = api.ErrProofForm
		}
		l = append(l, x)
	}
	slices.SortFunc(l, func(x, y event) int {
		if x.path == y.path {
			return x.turn - y.turn
		}
		return strings.Compare(x.path, y.path)
	})
	return l
}

// differByWords: what P16.5 says, of a list and a limit that are taken, where the pairs of references are few.
func differByWords(a, b []sight, limit int) ([]api.Change, api.Errno) {
	var l []api.Change
	for _, x := range eventsOf([2][]sight{looked(a, b), looked(b, a)}) {
		switch {
		case len(l) == limit:
			return l, api.OK
		case x.errno != api.OK:
			return nil, x.errno
		case x.value[0] != x.value[1]:
			l = append(l, api.Change{Key: []byte(unhex(x.path)), Before: []byte(x.value[0]), After: []byte(x.value[1])})
		}
	}
	return l, api.OK
}

func sayChanges(l []api.Change) string {
	var s strings.Builder
	for _, x := range l {
		fmt.Fprintf(&s, "%x: %x, %x\n", x.Key, x.Before, x.After)
	}
	return s.String()
}

// changesOf: what differs in two maps, rising, but no more than limit.
func changesOf(a, b map[string]string, limit int) []api.Change {
	both := maps.Clone(a)
	maps.Copy(both, b)
	var l []api.Change
	for _, k := range slices.Sorted(maps.Keys(both)) {
		if a[k] != b[k] && len(l) < limit {
			l = append(l, api.Change{Key: []byte(k), Before: []byte(a[k]), After: []byte(b[k])})
		}
	}
	return l
}

// differs: that Differ answers that.
func differs(t *testing.T, l []api.Node, a, b api.Hash, limit int, want []api.Change, e api.Errno) {
	t.Helper()
	got, f := proof.Differ(l, a, b, limit)
	if sayChanges(got) != sayChanges(want) || e != f {
		t.Fatalf("P16.5: Differ(%x, %x, %d): %d,\n%s, not %d,\n%s; of the nodes\n%s", a[:4], b[:4], limit, f, sayChanges(got), e, sayChanges(want), sayNodes(l))
	}
}

// differsAsSaid: that Differ answers what the words say, both ways; what it answers the one way.
func differsAsSaid(t *testing.T, l []api.Node, a, b api.Hash, limit int) api.Errno {
	t.Helper()
	x, y := sights(l, a), sights(l, b)
	want, e := differByWords(x, y, limit)
	differs(t, l, a, b, limit, want, e)
	back, f := differByWords(y, x, limit)
	differs(t, l, b, a, limit, back, f)
	return e
}

// shifted: a map with some keys fewer, some more and some with other values.
func shifted(r *rand.Rand, m map[string]string) map[string]string {
	m = maps.Clone(m)
	keys := slices.Sorted(maps.Keys(m))
	for range 1 + r.Intn(5) {
		key := drawnKey(r)
		if len(keys) > 0 && r.Intn(4) > 0 {
			key = keys[r.Intn(len(keys))]
		}
		if r.Intn(3) == 0 {
			around := near(key)
			key = around[r.Intn(len(around))]
		}
		switch {
		case r.Intn(2) == 0:
			delete(m, key)
		case len(key) <= 64:
			m[key] = strings.Repeat("new", 1+r.Intn(2)*r.Intn(20))
		}
	}
	return m
}

var limits = []int{1, 2, 5, 4096}

// TestDiffer: of tries that share much, of such that share nothing, and of the empty one.
func TestDiffer(t *testing.T) {
	r := rand.New(rand.NewSource(165))
	all := worlds()
	for i, m := range all {
		root, l := made(m)
		for range 3 {
			for _, other := range []map[string]string{shifted(r, m), all[r.Intn(len(all))], all[max(0, i-1)], {}} {
				beside, more := made(other)
				both := slices.Concat(more, l)
				for _, limit := range limits {
					differs(t, both, root, beside, limit, changesOf(m, other, limit), api.OK)
					differs(t, both, beside, root, limit, changesOf(other, m, limit), api.OK)
				}
				differsAsSaid(t, both, root, beside, limits[r.Intn(4)])
			}
		}
	}
}

// TestDifferOfEqualTries: nothing is looked at, be it there or not.
func TestDifferOfEqualTries(t *testing.T) {
	for _, m := range worlds() {
		root, l := made(m)
		for _, limit := range limits {
			differs(t, l, root, root, limit, nil, api.OK)
			differs(t, nil, root, root, limit, nil, api.OK)
			differs(t, []api.Node{{Hash: root, Bytes: []byte("junk")}}, root, root, limit, nil, api.OK)
		}
	}
	differs(t, nil, trie.Empty(), trie.Empty(), 1, nil, api.OK)
	differs(t, nil, api.Hash{}, api.Hash{}, 1, nil, api.OK)
	differs(t, nil, api.Hash{}, trie.Empty(), 1, nil, api.ErrProofNode)
	differs(t, nil, trie.Empty(), api.Hash{}, 1, nil, api.ErrProofNode)
	empty := []api.Node{{Hash: trie.Empty(), Bytes: []byte("junk")}}
	differs(t, empty, trie.Empty(), trie.Empty(), 1, nil, api.OK)
	root, l := made(map[string]string{"k": "x"})
	differs(t, append(empty, l...), trie.Empty(), root, 1, []api.Change{{Key: []byte("k"), After: []byte("x")}}, api.OK)
	differs(t, append(empty, l...), root, trie.Empty(), 1, []api.Change{{Key: []byte("k"), Before: []byte("x")}}, api.OK)
}

// TestDifferMissing: a node that isn't there, or is another one's, in a part that both have and in one that must be looked at.
func TestDifferMissing(t *testing.T) {
	r := rand.New(rand.NewSource(16))
	told := map[api.Errno]int{}
	for _, m := range worlds() {
		root, l := made(m)
		for range 1 + 20/(len(l)+5) {
			other := shifted(r, m)
			beside, more := made(other)
			both := slices.Concat(l, more)
			x, y := sights(both, root), sights(both, beside)
			needed := hashes(slices.Concat(looked(x, y), looked(y, x)), func(sight) bool { return true })
			differs(t, only(both, needed...), root, beside, 4096, changesOf(m, other, 4096), api.OK)
			for _, i := range someOf(len(both)) {
				h := both[i].Hash
				want := []api.Errno{api.OK, api.OK}
				if slices.Contains(needed, h) {
					want = []api.Errno{api.ErrProofNode, api.ErrProofForm}
				}
				for j, hurt := range [][]api.Node{without(both, h), append([]api.Node{{Hash: h, Bytes: nodeOf(leaf("12", "x")).Bytes}}, both...)} {
					if e := differsAsSaid(t, hurt, root, beside, 4096); e != want[j] {
						t.Fatalf("P16.5: %d, not %d", e, want[j])
					}
					told[differsAsSaid(t, hurt, root, beside, 1+r.Intn(2))]++
				}
				if e := differsAsSaid(t, append(slices.Clone(both), api.Node{Hash: h}), root, beside, 4096); e != api.OK {
					t.Fatalf("P16.5: of two with one hash the first one: %d", e)
				}
			}
		}
	}
	for _, e := range []api.Errno{api.OK, api.ErrProofNode, api.ErrProofForm} {
		if told[e] < 100 {
			t.Errorf("%d only %d times", e, told[e])
		}
	}
}

// TestDifferOrder: what is told of a trie that lacks nodes hangs on how far its changes are asked for.
func TestDifferOrder(t *testing.T) {
	gone := hashed(api.Hash{1})
	a := nodeOf(fork(map[int]api.Item{1: leaf("1", "a"), 2: leaf("1", "same"), 3: gone, 4: gone, 16: text("e")}))
	b := nodeOf(fork(map[int]api.Item{1: leaf("1", "b"), 2: leaf("1", "same"), 3: gone, 5: leaf("1", "new"), 16: text("e")}))
	l := []api.Node{a, b}
	first := []api.Change{{Key: []byte{0x11}, Before: []byte("a"), After: []byte("b")}}
	differs(t, l, a.Hash, b.Hash, 1, first, api.OK)
	differs(t, l, a.Hash, b.Hash, 2, nil, api.ErrProofNode)
	c := nodeOf(fork(map[int]api.Item{1: leaf("1", "b"), 2: leaf("1", "same"), 3: gone, 4: gone, 5: leaf("1", "new"), 16: text("f")}))
	second := []api.Change{{Before: []byte("e"), After: []byte("f")}, first[0], {Key: []byte{0x51}, After: []byte("new")}}
	differs(t, append(l, c), a.Hash, c.Hash, 3, second, api.OK)
	differs(t, append(l, c), a.Hash, c.Hash, 4096, second, api.OK)
	differs(t, append(l, c), a.Hash, trie.Empty(), 3, []api.Change{{Before: []byte("e")}, {Key: []byte{0x11}, Before: []byte("a")}, {Key: []byte{0x21}, Before: []byte("same")}}, api.OK)
	differs(t, append(l, c), a.Hash, trie.Empty(), 4, nil, api.ErrProofNode)
}

// TestDifferForms: values where no key ends, paths that are too long, bytes that are no node, in either.
func TestDifferForms(t *testing.T) {
	told := map[api.Errno]int{}
	r := rand.New(rand.NewSource(5))
	all := append(forms(), nil, []api.Node{nodeOf(leaf("11", "x"))}, []api.Node{nodeOf(fork(map[int]api.Item{1: leaf("2", "x"), 2: leaf("2", "x")}))})
	for i, l := range all {
		for _, j := range append(r.Perm(len(all))[:25], i, len(all)-1, len(all)-2, len(all)-3) {
			both := slices.Concat(l, all[j])
			roots := [2]api.Hash{trie.Empty(), trie.Empty()}
			for k, part := range [][]api.Node{l, all[j]} {
				if len(part) > 0 {
					roots[k] = part[0].Hash
				}
			}
			told[differsAsSaid(t, both, roots[0], roots[1], limits[r.Intn(4)])]++
		}
	}
	for _, e := range []api.Errno{api.OK, api.ErrProofNode, api.ErrProofForm} {
		if told[e] < 100 {
			t.Errorf("%d only %d times", e, told[e])
		}
	}
}

// TestDifferOfOddNodes: tries as no map has them, by the words.
func TestDifferOfOddNodes(t *testing.T) {
	seeded(t, 4, func(t *testing.T, r *rand.Rand) {
		told := map[api.Errno]int{}
		for range 700 {
			l, other := drawnNodes(r), drawnNodes(r)
			if r.Intn(3) > 0 {
				l, other = evenNodes(r), evenNodes(r)
			}
			both := slices.Concat(l, other)
			for range 4 {
				a, b := l[len(l)-1].Hash, both[r.Intn(len(both))].Hash
				if r.Intn(2) == 0 {
					b = other[len(other)-1].Hash
				}
				if r.Intn(2) == 0 {
					more := respelled(r, l)
					both, b = slices.Concat(both, more), more[len(more)-1].Hash
				}
				told[differsAsSaid(t, both, a, b, limits[r.Intn(4)])]++
			}
		}
		for _, e := range []api.Errno{api.OK, api.ErrProofNode, api.ErrProofForm} {
			if told[e] < 20 {
				t.Errorf("%d only %d times", e, told[e])
			}
		}
	})
}

// respelled: nodes of which one is told another way, or changed, and with it all that refers to it.
func respelled(r *rand.Rand, l []api.Node) []api.Node {
	names := map[api.Hash]api.Hash{}
	at := r.Intn(len(l))
	var told []api.Node
	for i, n := range l {
		x := renamed(must(rlp.Decode(n.Bytes)), names)
		if i == at {
			x = twisted(r, x)
		}
		told = append(told, nodeOf(x))
		names[n.Hash] = told[i].Hash
	}
	return told
}

// renamed: an item with other hashes in place of some.
func renamed(x api.Item, names map[api.Hash]api.Hash) api.Item {
	if !x.List {
		if len(x.Bytes) == 32 {
			if h, ok := names[api.Hash(x.Bytes)]; ok {
				return hashed(h)
			}
		}
		return x
	}
	l := slices.Clone(x.Items)
	for i := range l {
		l[i] = renamed(l[i], names)
	}
	return list(l...)
}

// twisted: a list of 17 with a reference at another place too, or with another value; a leaf with a path above it, or with another value; a path with a shorter one.
func twisted(r *rand.Rand, x api.Item) api.Item {
	l := slices.Clone(x.Items)
	if len(l) == 17 {
		i := 16 * r.Intn(2)
		l[i] = []api.Item{text("twisted"), l[r.Intn(16)]}[(16-i)/16]
		return list(l...)
	}
	path, isLeaf, _ := trie.Unpack(l[0].Bytes)
	own := ""
	for _, nibble := range path {
		own += fmt.Sprintf("%x", nibble)
	}
	switch {
	case isLeaf && len(own) > 1 && len(encoded(x)) < 30 && r.Intn(3) > 0:
		return way(own[:1], leaf(own[1:], string(l[1].Bytes)))
	case isLeaf:
		return leaf(own, "twisted")
	}
	return way(own[1:]+own[:1], l[1])
}

// pair: an item and another one of the same entries, in none of whose parts the two are the same, nor do they have one reference at one path.
type pair struct{ a, b api.Item }

// towers: pairs that are made once each, and the nodes that they need.
type towers struct {
	made  map[[2]int]pair
	nodes []api.Node
}

func newTowers() *towers { return &towers{made: map[[2]int]pair{}} }

func (w *towers) add(a, b api.Item) pair {
	w.nodes = append(w.nodes, nodeOf(a), nodeOf(b))
	return pair{byHash(a), byHash(b)}
}

// room: how many lists of 17 a tower of so many storeys has at most.
func room(storeys int) int {
	if storeys == 0 {
		return 0
	}
	return 1 + 16*room(storeys-1)
}

// tower: a pair whose references at depth differ, with so many pairs of lists of 17 in it, all of whose references differ.
func (w *towers) tower(forks, storeys, depth int) pair {
	key := [2]int{forks, depth}
	if p, ok := w.made[key]; ok {
		return p
	}
	var p pair
	if forks == 0 {
		rest := strings.Repeat("1", 2+depth%2)
		p = w.add(leaf(rest, "x"), way("1", leaf(rest[1:], "x")))
	} else {
		a, b := fork(nil), fork(nil)
		forks--
		for i := range 16 {
			part := min(forks, room(storeys-1))
			forks -= part
			below := w.tower(part, storeys-1, depth+1)
			a.Items[i], b.Items[i] = below.a, below.b
		}
		p = w.add(a, b)
	}
	w.made[key] = p
	return p
}

// stilted: a tower with so many paths of one nibble above it, the first one of which stands at depth.
func (w *towers) stilted(stilts, forks, depth int) pair {
	p := w.tower(forks, 4, depth+stilts)
	for range stilts {
		p = w.add(way("1", p.a), way("1", p.b))
	}
	return p
}

// TestDifferOfManyPairs: 65536 pairs of references are held against each other, not one more. One is the roots', one each path's, 16 each list's.
func TestDifferOfManyPairs(t *testing.T) {
	for _, c := range []struct {
		stilts, forks int
		want          api.Errno
	}{
		{0, 0, api.OK}, {1, 1, api.OK}, {4, 273, api.OK}, {15, 4095, api.OK}, {14, 4095, api.OK}, {16, 4095, api.ErrProofMore}, {31, 4094, api.OK}, {32, 4094, api.ErrProofMore}, {0, 4096, api.ErrProofMore}, {0, 4369, api.ErrProofMore}, {3, 4369, api.ErrProofMore},
	} {
		w := newTowers()
		p := w.stilted(c.stilts, c.forks, 0)
		a, b := api.Hash(p.a.Bytes), api.Hash(p.b.Bytes)
		for _, limit := range []int{1, 4096} {
			got, e := proof.Differ(w.nodes, a, b, limit)
			back, f := proof.Differ(w.nodes, b, a, limit)
			if len(got)+len(back) != 0 || e != c.want || f != c.want {
				t.Errorf("P16.5: %d paths, %d lists: %d, %d, not %d", c.stilts, c.forks, e, f, c.want)
			}
		}
		if got, e := proof.Differ(w.nodes, a, trie.Empty(), 4096); e != api.OK || len(got) == 0 {
			t.Errorf("P16.5: where only one has references there are no pairs: %d", e)
		}
	}
}

// TestDifferAheadOfManyPairs: a limit that is reached earlier; what stands behind that isn't counted.
func TestDifferAheadOfManyPairs(t *testing.T) {
	first := func(p pair, other int) (pair, []api.Change) {
		a, b := full(leaf("1", "same")), full(leaf("1", "same"))
		a.Items[1], b.Items[1] = p.a, p.b
		a.Items[other], b.Items[other] = leaf("0", "x"), leaf("0", "y")
		return pair{a, b}, []api.Change{{Key: []byte{byte(other) << 4}, Before: []byte("x"), After: []byte("y")}}
	}
	for _, c := range []struct {
		stilts, forks, other int
		want                 api.Errno
	}{
		{0, room(4), 0, api.OK}, {0, room(4), 2, api.ErrProofMore},
		// The roots', one for nibble 0, that of the stilts' head, of each stilt and of the lists' parts, and one for nibble 2.
		{12, 4095, 2, api.OK}, {13, 4095, 2, api.ErrProofMore},
	} {
		w := newTowers()
		p, want := first(w.stilted(c.stilts, c.forks, 1), c.other)
		p = w.add(p.a, p.b)
		a, b := api.Hash(p.a.Bytes), api.Hash(p.b.Bytes)
		if c.want != api.OK {
			want = nil
		}
		differs(t, w.nodes, a, b, 1, want, c.want)
		differs(t, w.nodes, a, b, 2, nil, api.ErrProofMore)
	}
}

// TestDifferOfShared: tries of far more keys than nodes, which part from one another at one way down.
func TestDifferOfShared(t *testing.T) {
	for _, depth := range []int{2, 64, 128} {
		l := []api.Node{nodeOf(leaf("", "x")), nodeOf(leaf("", "y"))}
		same, other := hashed(l[0].Hash), hashed(l[1].Hash)
		for range depth {
			x := full(same)
			x.Items[5] = other
			l = append(l, nodeOf(full(same)), nodeOf(x))
			same, other = byHash(full(same)), byHash(x)
		}
		a, b := l[len(l)-2].Hash, l[len(l)-1].Hash
		differs(t, l, a, b, 4096, []api.Change{{Key: []byte(strings.Repeat("\x55", depth/2)), Before: []byte("x"), After: []byte("y")}}, api.OK)
		for _, limit := range []int{1, 256, 4096} {
			got, e := proof.Differ(l, trie.Empty(), b, limit)
			most := limit
			if depth == 2 {
				most = min(limit, 256)
			}
			if e != api.OK || len(got) != most {
				t.Errorf("P16.5: %d changes, %d", len(got), e)
			}
		}
	}
}
