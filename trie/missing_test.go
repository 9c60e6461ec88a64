package trie_test

import (
	"fmt"
	"maps"
	"math/rand"
	"slices"
	"strings"
	"testing"

	"moraine/api"
	"moraine/trie"
)

// deed: a call of a trie.
type deed struct {
	kind       string // Get, Put or Delete
	key, value string
}

// on: what a deed answers.
func (d deed) on(x *trie.Trie) (string, bool, api.Errno) {
	switch d.kind {
	case "Get":
		v, ok, e := x.Get([]byte(d.key))
		return string(v), ok, e
	case "Put":
		return "", false, x.Put([]byte(d.key), []byte(d.value))
	}
	return "", false, x.Delete([]byte(d.key))
}

// changed: the map behind a deed.
func (d deed) changed(m map[string]string) map[string]string {
	m = maps.Clone(m)
	switch d.kind {
	case "Put":
		m[d.key] = d.value
	case "Delete":
		delete(m, d.key)
	}
	return m
}

// ahead: whether a path begins with another one, and what is left of it.
func ahead(path, begin string) (string, bool) {
	return strings.TrimPrefix(path, begin), strings.HasPrefix(path, begin)
}

// needs: the hashes of the nodes that a deed needs, by P14.4's and P14.5's words: those on the key's way, from the root down; and, where a list of 17 is left with one child, that child's.
func needs(k *reckoned, d deed) []api.Hash {
	var l []api.Hash
	rest := halves(d.key)
	var alone *place
	for p, top := k.top, true; p != nil; top = false {
		if top || p.byHash() {
			l = append(l, p.hash)
		}
		if !p.fork {
			var ok bool
			rest, ok = ahead(rest, p.path)
			p = p.below[0]
			if !ok {
				break
			}
			continue
		}
		alone = nil
		var left []*place
		for i, q := range p.below {
			if q != nil && (rest == "" || i != int(rest[0])) {
				left = append(left, q)
			}
		}
		if len(left) == 1 && (p.value == "" || rest == "") {
			alone = left[0]
		}
		if rest == "" {
			break
		}
		p, rest = p.below[rest[0]], rest[1:]
		if p != nil && (p.fork || p.below[0] != nil) { // something stays below
			alone = nil
		}
	}
	if _, there := k.m[d.key]; there && d.kind == "Delete" && alone != nil && alone.byHash() {
		l = append(l, alone.hash)
	}
	return l
}

// shelf: nodes that are asked for; which ones, one behind the other.
type shelf struct {
	nodes map[api.Hash][]byte
	asked []api.Hash
}

func newShelf(l []api.Node) *shelf {
	s := &shelf{nodes: map[api.Hash][]byte{}}
	for _, n := range l {
		s.nodes[n.Hash] = n.Bytes
	}
	return s
}

func (s *shelf) get(h api.Hash) ([]byte, bool) {
	s.asked = append(s.asked, h)
	b, ok := s.nodes[h]
	return b, ok
}

// list: what stands there, as New takes it.
func (s *shelf) list() []api.Node {
	var l []api.Node
	for h, b := range s.nodes {
		l = append(l, api.Node{Hash: h, Bytes: b})
	}
	return l
}

// deedsOn: of each key of a map, and of some near them.
func deedsOn(m map[string]string) []deed {
	keys := map[string]bool{"": true}
	for k := range m {
		keys[k] = true
		for _, other := range near(k) {
			if len(keys) < 60 {
				keys[other] = true
			}
		}
	}
	var l []deed
	for _, k := range slices.Sorted(maps.Keys(keys)) {
		l = append(l, deed{"Get", k, ""}, deed{"Put", k, "new"}, deed{"Put", k, strings.Repeat("new", 20)}, deed{"Delete", k, ""})
		if m[k] != "" {
			l = append(l, deed{"Put", k, m[k]})
		}
	}
	return l
}

// wholeMaps: whose nodes are of all kinds, by hash and within others.
func wholeMaps() []map[string]string {
	long := strings.Repeat("v", 40)
	l := []map[string]string{{}, {"": "x"}, {"k": long}, wordy("do verb dog puppy doge coin horse stallion")}
	for _, keys := range rows {
		for _, size := range []int{1, 20, 40} {
			m := map[string]string{}
			for i, k := range keys {
				m[k] = strings.Repeat(fmt.Sprint(i), size)
			}
			l = append(l, m)
			m = maps.Clone(m)
			delete(m, keys[0])
			m[keys[1]] = "x"
			l = append(l, m)
		}
	}
	r := rand.New(rand.NewSource(3))
	for range 12 {
		m := map[string]string{}
		for i := range 12 {
			m[drawnKey(r)] = fmt.Sprint(i, drawnValue(r))
		}
		l = append(l, m)
	}
	return l
}

// TestNeeded: that nothing is asked for when a trie is made, and by each deed what it needs, and nothing else, in order; that what else is missing is no harm.
func TestNeeded(t *testing.T) {
	t.Parallel()
	for _, m := range wholeMaps() {
		k := reckon(m)
		for _, d := range deedsOn(m) {
			s := newShelf(k.nodes)
			need := needs(k, d)
			maps.DeleteFunc(s.nodes, func(h api.Hash, _ []byte) bool { return !slices.Contains(need, h) })
			x := trie.Open(k.root, s.get)
			if len(s.asked) != 0 || x.Root() != k.root || len(x.Nodes()) != 0 || len(s.asked) != 0 {
				t.Fatalf("P14.4: asked for %x, the root %x", s.asked, x.Root())
			}
			v, ok, e := d.on(x)
			if e != api.OK || !slices.Equal(s.asked, need) {
				t.Fatalf("P14.4, P14.5: %v of %q: %d; asked for %x, not %x", d, m, e, s.asked, need)
			}
			if want, there := m[d.key]; d.kind == "Get" && (v != want || ok != there) {
				t.Fatalf("P14.4: %v of %q: %q, %v", d, m, v, ok)
			}
			covers(t, x, k.nodes, d.changed(m))
			if len(s.asked) != len(need) {
				t.Fatalf("P14.4: Root or Nodes asked")
			}
		}
	}
}

// stays: that a trie tells what it told ahead of a deed that was refused.
func stays(t *testing.T, x *trie.Trie, root api.Hash, own []api.Node) {
	t.Helper()
	if x.Root() != root || !alike(x.Nodes(), own) {
		t.Fatalf("P14.5: a deed that was refused changed the trie")
	}
}

// TestMissing: each node that a deed needs is missing, or isn't one: which error is told, and that nothing changes.
func TestMissing(t *testing.T) {
	t.Parallel()
	for _, m := range wholeMaps() {
		k := reckon(m)
		for _, d := range deedsOn(m) {
			need := needs(k, d)
			for i, h := range need {
				for what, want := range map[string]api.Errno{"": api.ErrTrieNode, "C0": api.ErrTrieForm, "80": api.ErrTrieForm, "C2 20 80": api.ErrTrieForm, "81 05": api.ErrTrieForm, "no byte": api.ErrTrieForm} {
					s := newShelf(k.nodes)
					switch what {
					case "":
						delete(s.nodes, h)
					case "no byte":
						s.nodes[h] = nil
					default:
						s.nodes[h] = unhex(what)
					}
					// One that is needed later isn't looked at any more.
					for _, later := range need[i+1:] {
						s.nodes[later] = []byte{0xC0}
						if want == api.ErrTrieForm {
							delete(s.nodes, later)
						}
					}
					opened, made := trie.Open(k.root, s.get), trie.New(k.root, s.list())
					for _, x := range []*trie.Trie{opened, made} {
						if v, ok, e := d.on(x); v != "" || ok || e != want {
							t.Fatalf("P14.4, P14.5: %v of %q, node %d %q: %q, %v, %d", d, m, i, what, v, ok, e)
						}
						stays(t, x, k.root, nil)
					}
					if !slices.Equal(s.asked, need[:i+1]) {
						t.Fatalf("P14.4: %v of %q: asked for %x, not %x", d, m, s.asked, need[:i+1])
					}
				}
			}
		}
	}
}

// TestMissingBehindChanges: deeds one behind the other, on a trie over nodes some of which are missing or none: each is done whole or, with an error, not at all.
func TestMissingBehindChanges(t *testing.T) {
	t.Parallel()
	met := map[api.Errno]int{}
	for seed := range int64(150) {
		r := rand.New(rand.NewSource(seed))
		m := map[string]string{}
		for i := range 25 {
			m[drawnKey(r)] = fmt.Sprint(i, ".", drawnValue(r)) // no two alike, so that no node stands at two places
		}
		k := reckon(m)
		s, whole := newShelf(k.nodes), k.nodes
		for _, n := range whole {
			switch r.Intn(8) {
			case 0:
				delete(s.nodes, n.Hash)
			case 1:
				s.nodes[n.Hash] = []byte{0xC0}
			}
		}
		x := trie.Open(k.root, s.get)
		for i := range 40 {
			d := deed{[]string{"Get", "Put", "Delete"}[r.Intn(3)], drawnKey(r), fmt.Sprint(i, "-", drawnValue(r))}
			if there := slices.Sorted(maps.Keys(m)); len(there) > 0 && r.Intn(2) == 0 {
				d.key = there[r.Intn(len(there))]
			}
			own := x.Nodes()
			want := api.OK
			for _, h := range needs(k, d) {
				b, ok := s.nodes[h]
				if slices.ContainsFunc(own, func(n api.Node) bool { return n.Hash == h }) {
					continue
				} else if !ok {
					want = api.ErrTrieNode
					break
				} else if len(b) == 1 {
					want = api.ErrTrieForm
					break
				}
			}
			v, ok, e := d.on(x)
			if e != want {
				t.Fatalf("P14.5: %v of %q: %d, not %d", d, m, e, want)
			}
			met[e]++
			if e != api.OK {
				stays(t, x, k.root, own)
				continue
			}
			if value, there := m[d.key]; d.kind == "Get" && (v != value || ok != there) {
				t.Fatalf("P14.4: %v of %q: %q, %v", d, m, v, ok)
			}
			m = d.changed(m)
			k = reckon(m)
			covers(t, x, whole, m)
		}
	}
	if met[api.OK] < 500 || met[api.ErrTrieNode] < 500 || met[api.ErrTrieForm] < 500 {
		t.Errorf("met %v", met)
	}
}

// TestLeftAlone: lists of 17 that are left with one child, of each kind and each length, or with their value alone; at the top, below a path and below another list.
func TestLeftAlone(t *testing.T) {
	t.Parallel()
	for _, size := range []int{1, 10, 40} {
		value := func(x string) string { return strings.Repeat(x, size) }
		for what, m := range map[string]map[string]string{
			"a leaf":              {"\x11\x11": value("a"), "\x12": value("g")},
			"a leaf, two nibbles": {"\x11\x11": value("a"), "\x21\x12": value("g")},
			"a path":              {"\x11\x11\x11": value("a"), "\x11\x11\x12": value("b"), "\x21": value("g")},
			"a list":              {"\x11": value("a"), "\x12": value("b"), "\x21": value("g")},
			"a list with a value": {"\x11\x11": value("a"), "\x11": value("b"), "\x21": value("g")},
			"a list, below":       {"\x11\x11": value("a"), "\x11\x21": value("b"), "\x12": value("g")},
			"the value":           {"": value("a"), "\x21": value("g")},
			"the value, below":    {"\x11": value("a"), "\x11\x21": value("g")},
			"a child, no value":   {"\x11\x11": value("a"), "\x11": value("g")},
			"a child of a leaf":   {"\x11": value("a"), "": value("g")},
			"two are left":        {"\x11": value("a"), "\x21": value("b"), "\x31": value("g")},
			"one and the value":   {"": value("a"), "\x21": value("b"), "\x31": value("g")},
		} {
			for _, begin := range []string{"", "\x55", "\x55\x55"} {
				for _, beside := range []map[string]string{{}, {"\x65": "x"}, {"\x45": value("y"), "\x65\x11": value("z")}, {"\x56\x11": value("y")}} {
					whole, gone := map[string]string{}, ""
					maps.Copy(whole, beside)
					for k, v := range m {
						whole[begin+k] = v
						if v == value("g") {
							gone = begin + k
						}
					}
					k := reckon(whole)
					s := newShelf(k.nodes)
					x, over := filled(t, whole), trie.Open(k.root, s.get)
					d := deed{"Delete", gone, ""}
					remove(t, x, gone)
					remove(t, over, gone)
					isMap(t, x, d.changed(whole))
					covers(t, over, k.nodes, d.changed(whole))
					if need := needs(k, d); !slices.Equal(s.asked, need) {
						t.Fatalf("P14.5: %s: asked for %x, not %x", what, s.asked, need)
					}
					put(t, x, gone, value("g"))
					put(t, over, gone, value("g"))
					isMap(t, x, whole)
					covers(t, over, k.nodes, whole)
				}
			}
		}
	}
}

// TestChildIsNeeded: by hand: which of the nodes of 11, 12 and 21 are needed to take one of them away.
func TestChildIsNeeded(t *testing.T) {
	long := strings.Repeat("v", 40)
	m := map[string]string{"\x11": "a" + long, "\x12": "b" + long, "\x21": "c" + long}
	k := reckon(m)
	l := k.nodes // 11, 12, the list above them, 21, the top
	for _, c := range []struct {
		missing   int
		key       string
		get, gone api.Errno
	}{
		{0, "\x11", api.ErrTrieNode, api.ErrTrieNode}, {0, "\x12", api.OK, api.ErrTrieNode}, {0, "\x21", api.OK, api.OK}, {0, "\x13", api.OK, api.OK}, {0, "\x31", api.OK, api.OK},
		{1, "\x11", api.OK, api.ErrTrieNode}, {1, "\x12", api.ErrTrieNode, api.ErrTrieNode}, {1, "\x21", api.OK, api.OK}, {1, "\x11\x11", api.OK, api.OK},
		{2, "\x11", api.ErrTrieNode, api.ErrTrieNode}, {2, "\x13", api.ErrTrieNode, api.ErrTrieNode}, {2, "\x21", api.OK, api.ErrTrieNode}, {2, "\x31", api.OK, api.OK},
		{3, "\x11", api.OK, api.OK}, {3, "\x21", api.ErrTrieNode, api.ErrTrieNode}, {3, "\x22", api.ErrTrieNode, api.ErrTrieNode}, {3, "\x31", api.OK, api.OK},
		{4, "\x11", api.ErrTrieNode, api.ErrTrieNode}, {4, "\x31", api.ErrTrieNode, api.ErrTrieNode}, {4, "", api.ErrTrieNode, api.ErrTrieNode},
	} {
		x := trie.New(k.root, slices.Delete(slices.Clone(l), c.missing, c.missing+1))
		_, _, get := x.Get([]byte(c.key))
		set := x.Put([]byte(c.key), []byte(m[c.key]+"new"))
		x = trie.New(k.root, slices.Delete(slices.Clone(l), c.missing, c.missing+1))
		gone := x.Delete([]byte(c.key))
		if get != c.get || set != c.get || gone != c.gone {
			t.Errorf("P14.4, P14.5: %d is missing, of %x: %d, %d, %d", c.missing, c.key, get, set, gone)
		}
	}
}
