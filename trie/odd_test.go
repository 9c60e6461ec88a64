package trie_test

import (
	"bytes"
	"fmt"
	"maps"
	"math/rand"
	"slices"
	"strings"
	"testing"

	"moraine/api"
	"moraine/keccak"
	"moraine/rlp"
	"moraine/trie"
)

// named: a node under a hash that isn't its bytes'.
func named(name byte, x api.Item) api.Node {
	return api.Node{Hash: api.Hash(hash(name).Bytes), Bytes: encoded(x)}
}

func one(s string) api.Item { return text([]byte(s)) }

// gets: that Get of a key tells a value; none, if it is empty.
func gets(t *testing.T, x *trie.Trie, key, want string) {
	t.Helper()
	if v, ok, e := x.Get([]byte(key)); string(v) != want || ok != (want != "") || e != api.OK {
		t.Errorf("P14.4: Get(%x): %.20x, %v, %d, not %.20x", key, v, ok, e, want)
	}
}

// TestFirstOfTwo: of two nodes with one hash the first one, be it a node or none.
func TestFirstOfTwo(t *testing.T) {
	a, b := named(1, leaf(halves("k"), one("first"))), named(1, leaf(halves("k"), one("second")))
	gets(t, trie.New(a.Hash, []api.Node{a, b}), "k", "first")
	gets(t, trie.New(a.Hash, []api.Node{b, a, a}), "k", "second")
	gets(t, trie.New(a.Hash, []api.Node{named(2, one("")), b, a}), "k", "second")
	none := api.Node{Hash: a.Hash}
	for _, l := range [][]api.Node{{none, a}, {named(1, one("x")), a}, {named(1, list()), a, b}} {
		x := trie.New(a.Hash, l)
		v, ok, e := x.Get([]byte("k"))
		if len(v) != 0 || ok || e != api.ErrTrieForm || x.Put([]byte("k"), []byte("x")) != api.ErrTrieForm || x.Delete([]byte("k")) != api.ErrTrieForm || x.Root() != a.Hash {
			t.Errorf("P14.4: %x, %v, %d", v, ok, e)
		}
	}
}

// TestOtherHashes: nodes whose hashes aren't their bytes': the root is told as it was given, as long as nothing changes; then it is of what is there.
func TestOtherHashes(t *testing.T) {
	l := []api.Node{named(1, fork(map[int]api.Item{1: hash(2), 2: hash(3), 16: one("e")})), named(2, leaf("\x01", one("a"))), named(3, way("\x01", hash(4))), named(4, fork(map[int]api.Item{3: hash(2), 16: one("b")}))}
	root := l[0].Hash
	x := trie.New(root, l)
	for range 2 {
		gets(t, x, "", "e")
		gets(t, x, "\x11", "a")
		gets(t, x, "\x21", "b")
		gets(t, x, "\x21\x31", "a")
		gets(t, x, "\x12", "")
		put(t, x, "\x21\x31", "a")
		remove(t, x, "\x21\x41")
		if x.Root() != root || len(x.Nodes()) != 0 {
			t.Fatalf("P14.7: the root %x", x.Root())
		}
	}
	put(t, x, "\x11", "A")
	want := fork(map[int]api.Item{1: leaf("\x01", one("A")), 2: hash(3), 16: one("e")})
	if x.Root() != keccak.Sum(encoded(want)) || !alike(x.Nodes(), []api.Node{{Hash: x.Root(), Bytes: encoded(want)}}) {
		t.Errorf("P14.5: %s", sayNodes(x.Nodes()))
	}
	gets(t, x, "\x21\x31", "a")
	remove(t, x, "\x11")
	remove(t, x, "")
	gets(t, x, "\x21\x31", "a")
	// What is left begins with 2 1.
	if want := way("\x02\x01", hash(4)); !alike(x.Nodes(), []api.Node{{Hash: keccak.Sum(encoded(want)), Bytes: encoded(want)}}) {
		t.Errorf("P14.5: %s", sayNodes(x.Nodes()))
	}
}

// TestRoots: of a root that nobody knows, and of the root Empty(), whatever stands under it.
func TestRoots(t *testing.T) {
	for _, root := range []api.Hash{{}, {1}, keccak.Sum()} {
		for _, l := range [][]api.Node{nil, {named(1, leaf("", one("x")))}} {
			x := trie.New(root, l)
			_, ok, e := x.Get(nil)
			if ok || e != api.ErrTrieNode || x.Put(nil, []byte("x")) != api.ErrTrieNode || x.Delete(nil) != api.ErrTrieNode || x.Root() != root || len(x.Nodes()) != 0 {
				t.Errorf("P14.4: the root %x: %v, %d", root, ok, e)
			}
		}
	}
	for _, b := range [][]byte{{0x80}, nil, encoded(leaf("", one("x")))} {
		x := trie.New(trie.Empty(), []api.Node{{Hash: trie.Empty(), Bytes: b}})
		gets(t, x, "", "")
		remove(t, x, "k")
		isMap(t, x, nil)
		put(t, x, "k", "x")
		isMap(t, x, map[string]string{"k": "x"})
	}
	asked := 0
	x := trie.Open(trie.Empty(), func(api.Hash) ([]byte, bool) {
		asked++
		return nil, true
	})
	m := map[string]string{}
	for i := range 30 {
		k := fmt.Sprint(i)
		m[k] = strings.Repeat(k, 20)
		put(t, x, k, m[k])
	}
	remove(t, x, "7")
	delete(m, "7")
	tellsAll(t, x, m)
	isMap(t, x, m)
	if asked != 0 {
		t.Errorf("P14.4: asked %d times", asked)
	}
	// Below the root its hash is one like others.
	hole := api.Item{Bytes: unhex("56e81f171bcc55a6ff8345e692c0f86e5b48e01b996cadc001622fb5e363b421")}
	x = trie.New(api.Hash(hash(1).Bytes), []api.Node{named(1, fork(map[int]api.Item{0: hole, 16: one("e")}))})
	if _, ok, e := x.Get([]byte{0}); ok || e != api.ErrTrieNode {
		t.Errorf("P14.4: %v, %d", ok, e)
	}
}

// TestNotThere: what a function tells beside false isn't looked at.
func TestNotThere(t *testing.T) {
	b := encoded(leaf(halves("k"), one("x")))
	there := false
	x := trie.Open(keccak.Sum(b), func(api.Hash) ([]byte, bool) { return b, there })
	if v, ok, e := x.Get([]byte("k")); len(v) != 0 || ok || e != api.ErrTrieNode {
		t.Errorf("P14.4: %x, %v, %d", v, ok, e)
	}
	there = true
	gets(t, x, "k", "x")
}

// TestLongValues: nodes with greater values than can be put are read, and stay.
func TestLongValues(t *testing.T) {
	long := strings.Repeat("v", 60000)
	l := []api.Node{named(1, fork(map[int]api.Item{1: hash(2), 16: one(long + "e")})), named(2, leaf("\x01", one(long)))}
	x := trie.New(l[0].Hash, l)
	gets(t, x, "", long+"e")
	gets(t, x, "\x11", long)
	if x.Put([]byte("\x11"), []byte(long)) != api.ErrTrieValue {
		t.Error("P14.5: a value that is too long")
	}
	put(t, x, "\x21", "x")
	put(t, x, "\x11\x11", "y")
	gets(t, x, "", long+"e")
	gets(t, x, "\x11", long)
	gets(t, x, "\x11\x11", "y")
	y := trie.New(x.Root(), x.Nodes())
	gets(t, y, "", long+"e")
	gets(t, y, "\x11", long)
	remove(t, y, "")
	remove(t, y, "\x21")
	remove(t, y, "\x11\x11")
	if want := encoded(leaf("\x01\x01", one(long))); y.Root() != keccak.Sum(want) {
		t.Errorf("P14.5: %.99x", y.Nodes())
	}
}

// refuses: that a deed is answered ErrTrieForm and changes nothing.
func refuses(t *testing.T, x *trie.Trie, d deed) {
	t.Helper()
	root, own := x.Root(), x.Nodes()
	if _, _, e := d.on(x); e != api.ErrTrieForm {
		t.Errorf("P14.5: %.20q: %d", d, e)
	}
	stays(t, x, root, own)
}

// TestNoSuchNode: deeds that would need a node that can't be: with a path of 129 nibbles, or too long to be written.
func TestNoSuchNode(t *testing.T) {
	for n := 126; n <= 128; n++ {
		path := strings.Repeat("\x07", n)
		for _, end := range []api.Item{way(path, hash(3)), leaf(path, one("x"))} {
			x := trie.New(api.Hash(hash(1).Bytes), []api.Node{named(1, fork(map[int]api.Item{1: hash(2), 2: leaf("\x02", one("y"))})), named(2, end)})
			if n == 128 {
				refuses(t, x, deed{"Delete", "\x22", ""})
				gets(t, x, "\x22", "y")
				continue
			}
			remove(t, x, "\x22")
			if l := x.Nodes(); len(l) != 1 || trie.Check(l[0].Bytes) != api.OK {
				t.Errorf("P14.5: %s", sayNodes(l))
			}
		}
	}
	full := 65536 - len(encoded(leaf("\x01", one(strings.Repeat("v", 65500))))) + 65500
	for room, value := range []string{strings.Repeat("v", full), strings.Repeat("v", full-1), strings.Repeat("v", full-2), strings.Repeat("v", full-3)} {
		l := []api.Node{named(1, fork(map[int]api.Item{1: hash(2), 2: leaf("\x02", one("y"))})), named(2, leaf("\x01", one(value)))}
		x := trie.New(l[0].Hash, l)
		gets(t, x, "\x11", value)
		if room < 2 { // a path of two nibbles has two bytes and a head more
			refuses(t, x, deed{"Delete", "\x22", ""})
			continue
		}
		remove(t, x, "\x22")
		gets(t, x, "\x11", value)
	}
	for room := range 40 {
		value := strings.Repeat("v", 65536-7-len("\x20")-room-46)
		top := named(1, fork(map[int]api.Item{1: hash(2), 16: one(value)}))
		x := trie.New(top.Hash, []api.Node{top})
		d := deed{"Put", "\x22", strings.Repeat("y", 30)}
		if len(top.Bytes)+32 > 65536 {
			refuses(t, x, d)
		} else {
			put(t, x, d.key, d.value)
		}
		gets(t, x, "", value)
	}
}

// TestDeepNode: paths above paths, as deep as items may be, with a list of 17 ahead of what is left of them.
func TestDeepNode(t *testing.T) {
	end := leaf("\x01", text([]byte{9}))
	for range 13 {
		end = way("\x01", end)
	}
	for _, path := range []string{"\x01", "\x01\x02", "\x01\x02\x01", "\x01\x02\x01\x01"} {
		top := named(1, way(path, end))
		if trie.Check(top.Bytes) != api.OK {
			t.Fatal("that is no node")
		}
		x := trie.New(top.Hash, []api.Node{top})
		put(t, x, "\x22", "x")
		gets(t, x, "\x22", "x")
		for _, n := range x.Nodes() {
			if trie.Check(n.Bytes) != api.OK {
				t.Errorf("P14.5: %x", n.Bytes)
			}
		}
	}
}

// TestPathsBecomeOne: paths above leaves and above paths, as no map has them: behind a change on the key's way they are as the map's.
func TestPathsBecomeOne(t *testing.T) {
	l := []api.Node{named(1, way("\x01", hash(2))), named(2, way("\x02", hash(3))), named(3, leaf("\x03\x04", one("x"))), named(4, way("\x01", hash(5))), named(5, way("\x02", hash(6))), named(6, fork(map[int]api.Item{3: leaf("\x04", one("x")), 4: way("\x05", leaf("", one("y")))}))}
	both := map[string]string{"\x12\x34": "x", "\x12\x45": "y"}
	for _, c := range []struct {
		name int
		m    map[string]string
		d    deed
	}{
		{0, map[string]string{"\x12\x34": "x"}, deed{"Put", "\x12\x34", "new"}}, {0, map[string]string{"\x12\x34": "x"}, deed{"Put", "\x12\x35", "new"}}, {0, map[string]string{"\x12\x34": "x"}, deed{"Put", "\x12", "new"}},
		{0, map[string]string{"\x12\x34": "x"}, deed{"Delete", "\x12\x34", ""}}, {3, both, deed{"Put", "\x12\x34", "new"}}, {3, both, deed{"Put", "\x12\x45", "new"}}, {3, both, deed{"Delete", "\x12\x34", ""}}, {3, both, deed{"Delete", "\x12\x45", ""}},
	} {
		x := trie.New(l[c.name].Hash, l)
		tellsAll(t, x, c.m)
		if _, _, e := c.d.on(x); e != api.OK {
			t.Fatalf("P14.5: %q: %d", c.d, e)
		}
		m := c.d.changed(c.m)
		tellsAll(t, x, m)
		if c.d.key == "\x12\x34" && c.name == 3 && c.d.kind == "Put" {
			continue // beside its way one is left
		}
		isMap(t, x, m)
	}
}

// TestRound: nodes that refer to themselves: each call ends.
func TestRound(t *testing.T) {
	for _, top := range []api.Node{named(1, way("\x01", hash(1))), named(1, fork(map[int]api.Item{1: hash(1), 2: hash(1)})), named(1, fork(map[int]api.Item{1: hash(1), 16: one("x")})), named(1, way(strings.Repeat("\x01", 127), hash(1)))} {
		x := trie.New(top.Hash, []api.Node{top})
		for _, n := range []int{0, 1, 2, 63, 64} {
			for _, half := range []byte{0x11, 0x12, 0x21, 0x33} {
				key := bytes.Repeat([]byte{half}, n)
				for _, d := range []deed{{"Get", string(key), ""}, {"Put", string(key), "y"}, {"Put", string(key), strings.Repeat("y", 40)}, {"Get", string(key), ""}, {"Delete", string(key), ""}} {
					v, _, e := d.on(x)
					if e != api.OK && e != api.ErrTrieForm || e != api.OK && v != "" {
						t.Fatalf("P14.5: %q: %q, %d", d, v, e)
					}
				}
			}
		}
		for _, n := range x.Nodes() {
			if trie.Check(n.Bytes) != api.OK || keccak.Sum(n.Bytes) != n.Hash {
				t.Fatalf("P14.5: %x", n.Bytes)
			}
		}
	}
}

// getByWords: what P14.4 says of a key, over items under hashes.
func getByWords(pool map[api.Hash][]byte, root api.Hash, key string) (string, api.Errno) {
	rest := halves(key)
	ref := text(root[:])
	for {
		x := ref
		if !ref.List {
			if len(ref.Bytes) == 0 {
				return "", api.OK
			}
			b, ok := pool[api.Hash(ref.Bytes)]
			if !ok {
				return "", api.ErrTrieNode
			}
			var e api.Errno
			if x, e = rlp.Decode(b); e != api.OK || !isNode(x) {
				return "", api.ErrTrieForm
			}
		}
		if len(x.Items) == 17 {
			if rest == "" {
				return string(x.Items[16].Bytes), api.OK
			}
			ref, rest = x.Items[rest[0]], rest[1:]
			continue
		}
		path, isLeaf, _ := takesPath(x.Items[0].Bytes)
		left, ok := ahead(rest, path)
		switch {
		case isLeaf && rest == path:
			return string(x.Items[1].Bytes), api.OK
		case isLeaf || !ok:
			return "", api.OK
		}
		ref, rest = x.Items[1], left
	}
}

// fewKeys: all keys of up to two bytes whose halves are 0, 1 or 2.
func fewKeys() []string {
	l := []string{""}
	for _, a := range []byte{0x00, 0x01, 0x02, 0x10, 0x11, 0x12, 0x20, 0x21, 0x22} {
		l = append(l, string([]byte{a}))
		for _, b := range []byte{0x00, 0x01, 0x02, 0x10, 0x11, 0x12, 0x20, 0x21, 0x22} {
			l = append(l, string([]byte{a, b}))
		}
	}
	return l
}

// oddRef, oddNode: nodes that Check takes, and that no map has, too: paths above paths and above leaves, short ones by their hashes.
func oddRef(r *rand.Rand, depth int) api.Item {
	if depth > 0 && r.Intn(3) == 0 {
		if x := oddNode(r, depth-1); len(encoded(x)) < 32 {
			return x
		}
	}
	return hash(byte(1 + r.Intn(9)))
}

func oddNode(r *rand.Rand, depth int) api.Item {
	var path []byte
	for range 1 + r.Intn(3) {
		path = append(path, byte(r.Intn(3)))
	}
	value := text(bytes.Repeat([]byte{byte('a' + r.Intn(26))}, []int{1, 2, 5, 33}[r.Intn(4)]))
	switch r.Intn(6) {
	case 0, 1:
		return leaf(string(path[r.Intn(2):]), value)
	case 2:
		return way(string(path), oddRef(r, depth))
	}
	x := fork(map[int]api.Item{r.Intn(2): oddRef(r, depth), 2: oddRef(r, depth)})
	if r.Intn(2) == 0 {
		x.Items[16] = value
	}
	if r.Intn(2) == 0 {
		x.Items[r.Intn(2)] = oddRef(r, depth)
	}
	return x
}

// outlook: what a trie tells of all of fewKeys.
func outlook(x *trie.Trie) map[string]string {
	l := map[string]string{}
	for _, k := range fewKeys() {
		v, ok, e := x.Get([]byte(k))
		l[k] = fmt.Sprint(string(v), ok, e)
	}
	return l
}

// TestOddNodes: deeds on nodes as they come, with rounds and holes among them: what is done changes its key alone, what is refused nothing; Nodes, with what was there, tell the same.
func TestOddNodes(t *testing.T) {
	t.Parallel()
	done := map[api.Errno]int{}
	for seed := range int64(400) {
		r := rand.New(rand.NewSource(seed))
		pool := map[api.Hash][]byte{}
		for name := range byte(8) {
			pool[api.Hash(hash(name+1).Bytes)] = encoded(oddNode(r, 2))
		}
		if r.Intn(4) == 0 {
			pool[api.Hash(hash(byte(2+r.Intn(7))).Bytes)] = []byte{0xC0}
		}
		root := api.Hash(hash(1).Bytes)
		x := trie.Open(root, func(h api.Hash) ([]byte, bool) {
			b, ok := pool[h]
			return b, ok
		})
		view := outlook(x)
		for k, got := range view {
			v, e := getByWords(pool, root, k)
			if want := fmt.Sprint(v, v != "", e); got != want {
				t.Fatalf("P14.4: Get(%x): %s, not %s", k, got, want)
			}
		}
		for range 12 {
			d := deed{[]string{"Put", "Delete"}[r.Intn(2)], fewKeys()[r.Intn(91)], strings.Repeat("x", []int{1, 40}[r.Intn(2)])}
			before := x.Root()
			_, _, e := d.on(x)
			done[e]++
			switch {
			case e != api.OK:
				if x.Root() != before {
					t.Fatalf("P14.5: %q: %d, and another root", d, e)
				}
			case d.kind == "Put":
				view[d.key] = fmt.Sprint(d.value, true, api.OK)
			default:
				view[d.key] = fmt.Sprint("", false, api.OK)
			}
			if now := outlook(x); !maps.Equal(now, view) {
				t.Fatalf("P14.5: seed %d: %q: %v, not %v", seed, d, now, view)
			}
			var all []api.Node
			for _, n := range x.Nodes() {
				if trie.Check(n.Bytes) != api.OK || keccak.Sum(n.Bytes) != n.Hash {
					t.Fatalf("P14.5: %x", n.Bytes)
				}
				all = append(all, n)
			}
			for h, b := range pool {
				all = append(all, api.Node{Hash: h, Bytes: b})
			}
			if again := outlook(trie.New(x.Root(), all)); !maps.Equal(again, view) {
				t.Fatalf("P14.5: made again: %v, not %v", again, view)
			}
		}
	}
	for _, e := range []api.Errno{api.OK, api.ErrTrieNode, api.ErrTrieForm} {
		if done[e] < 50 {
			t.Errorf("%d only %d times", e, done[e])
		}
	}
}

// TestShared: a node of the trie's own that is also one of those it was made over stands ahead of all that refers to it.
func TestShared(t *testing.T) {
	long := strings.Repeat("v", 40)
	m := map[string]string{"\x11\x11": long, "\x11\x21": "x" + long, "\x21\x11": "y" + long, "\x31": "z"}
	k := reckon(m)
	x := trie.New(k.root, k.nodes)
	// The leaf 1 of 11 11 becomes one of 11 31 and of 21 21, too.
	put(t, x, "\x11\x31", long)
	put(t, x, "\x21\x21", long)
	m["\x11\x31"], m["\x21\x21"] = long, long
	covers(t, x, k.nodes, m)
	// It is referred to from 11 as one of those that were there, and from 21 as a new one.
	remove(t, x, "\x11\x31")
	delete(m, "\x11\x31")
	covers(t, x, k.nodes, m)
	put(t, x, "\x11\x21", "new")
	m["\x11\x21"] = "new"
	covers(t, x, k.nodes, m)
	if !slices.ContainsFunc(x.Nodes(), func(n api.Node) bool { return bytes.Equal(n.Bytes, encoded(leaf("\x01", one(long)))) }) {
		t.Errorf("P14.5: the shared node isn't told: %s", sayNodes(x.Nodes()))
	}
}
