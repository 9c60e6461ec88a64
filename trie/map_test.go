package trie_test

import (
	"fmt"
	"maps"
	"math/rand"
	"slices"
	"strings"
	"testing"

	"moraine/api"
	"moraine/keccak"
	"moraine/trie"
)

// isMap: that a trie from the root Empty() is that of a map: its root, and all of its nodes in order.
func isMap(t *testing.T, x *trie.Trie, m map[string]string) {
	t.Helper()
	k := reckon(m)
	if got := x.Root(); got != k.root {
		t.Fatalf("P14.2: %q: the root %x, not %x", m, got, k.root)
	}
	if got := x.Nodes(); !alike(got, k.nodes) {
		t.Fatalf("P14.5: %q: the nodes\n%snot\n%s", m, sayNodes(got), sayNodes(k.nodes))
	}
}

// covers: that a trie over old nodes has a map's root, and tells nodes of it, with which all are there: children ahead of what refers to them, each once.
func covers(t *testing.T, x *trie.Trie, old []api.Node, m map[string]string) {
	t.Helper()
	k := reckon(m)
	if got := x.Root(); got != k.root {
		t.Fatalf("P14.5: %q: the root %x, not %x", m, got, k.root)
	}
	want := map[api.Hash]string{}
	for _, n := range k.nodes {
		want[n.Hash] = string(n.Bytes)
	}
	told, there := map[api.Hash]int{}, map[api.Hash]bool{}
	for _, n := range old {
		there[n.Hash] = true
	}
	for i, n := range x.Nodes() {
		if want[n.Hash] != string(n.Bytes) || told[n.Hash] != 0 {
			t.Fatalf("P14.5: %q: node %d, %x, isn't one, or is told twice", m, i, n.Bytes)
		}
		told[n.Hash] = i + 1
		there[n.Hash] = true
	}
	for _, n := range x.Nodes() {
		l, _ := trie.Children(n.Bytes)
		for _, h := range l {
			if told[h] > told[n.Hash] {
				t.Fatalf("P14.5: %q: a child behind %x", m, n.Bytes)
			}
		}
	}
	for h := range want {
		if !there[h] {
			t.Fatalf("P14.5: %q: a node is missing", m)
		}
	}
}

// wordy: a map of a text of keys and values, by turns.
func wordy(s string) map[string]string {
	m, l := map[string]string{}, strings.Fields(s)
	for i := 0; i < len(l); i += 2 {
		m[l[i]] = l[i+1]
	}
	return m
}

// someMaps: ordinary ones and edges.
func someMaps() map[string]map[string]string {
	long := strings.Repeat("v", 1024)
	l := map[string]map[string]string{
		"none":              {},
		"the chapter's":     wordy("do verb dog puppy doge coin horse stallion"),
		"the empty key":     {"": "x"},
		"one":               {"k": "x"},
		"one, long":         {"k": long},
		"the empty one too": {"": "e", "a": "x", "b": strings.Repeat("y", 40)},
		"beginnings":        {"": "0", "a": "1", "ab": "2", "abc": "3", "abcd": "4", "abcde": "5"},
		"long beginnings":   {"": long, "a": long + "", "ab": long[1:], "abc": long[2:], "abcd": long[3:]},
		"two of 64":         {strings.Repeat("k", 64): "1", strings.Repeat("k", 63) + "l": "2"},
		"64 and 63":         {strings.Repeat("k", 64): long, strings.Repeat("k", 63): long},
		"64 and none":       {strings.Repeat("\x00", 64): "x", "": "y"},
		"all halves":        {},
		"alike below":       {"\x11\x22": long, "\x13\x22": long, "\x21\x22": long, "\x23\x22": long},
		"alike and short":   {"\x11\x22": "v", "\x13\x22": "v", "\x21\x22": "v", "\x23\x22": "v"},
		"a stem below":      {"\x12\x34\x56": "a", "\x12\x34\x57": "b", "\x22": "c"},
		"a value of zeros":  {"a": "\x00", "b": "\x00\x00"},
		"values as lists":   {"a": "\xC0", "b": "\x80", "c": strings.Repeat("\xFF", 32)},
	}
	for x := range 256 {
		l["all halves"][string([]byte{byte(x)})] = fmt.Sprint(x)
	}
	for i := range 65 {
		l[fmt.Sprint("a key of ", i)] = map[string]string{strings.Repeat("\xA5", i): "x"}
	}
	for i := range 50 {
		l[fmt.Sprint("values of ", i+1)] = map[string]string{"\x12": long[:i+1], "\x13": "w" + long[:i], "\x33": long[:i+1]}
		l[fmt.Sprint("a path above ", i+1)] = map[string]string{"\x12\x34": long[:i+1], "\x12\x35": "w" + long[:i], "\x12": "x"}
		l[fmt.Sprint("a leaf of ", i+1)] = map[string]string{"k": long[:i+1]}
	}
	return l
}

// TestMaps: roots and nodes, against a plain reckoning; the same map of the nodes alone.
func TestMaps(t *testing.T) {
	for what, m := range someMaps() {
		x := filled(t, m)
		isMap(t, x, m)
		tellsAll(t, x, m)
		old := x.Nodes()
		for _, y := range []*trie.Trie{trie.New(x.Root(), old), trie.New(x.Root(), slices.Concat(old, old))} {
			tellsAll(t, y, m)
			covers(t, y, old, m)
		}
		for k := range m {
			remove(t, x, k)
		}
		if x.Root() != trie.Empty() || len(x.Nodes()) != 0 {
			t.Fatalf("P14.5: %s: something is left", what)
		}
	}
}

func TestExamples(t *testing.T) {
	if h := trie.Empty(); fmt.Sprintf("%X", h) != "56E81F171BCC55A6FF8345E692C0F86E5B48E01B996CADC001622FB5E363B421" {
		t.Errorf("P14.2: Empty(): %x", h)
	}
	x := filled(t, wordy("do verb dog puppy doge coin horse stallion"))
	if h := x.Root(); fmt.Sprintf("%X", h) != "5991BB8C6514148A29DB676A14AC506CD2CD5775ACE63C30A4FE457715E9AC84" {
		t.Errorf("P14.2: %x", h)
	}
	// Other tries that are widely known.
	for s, want := range map[string]string{
		"A " + strings.Repeat("a", 50):                "D23786FB4A010DA3CE639D66D5E904A11DBC02746D1CE25029E53290CABF28AB",
		"doe reindeer dog puppy dogglesworth cat":     "8AAD789DFF2F538BCA5D8EA56E8ABE10F4C7BA3A5DEA95FEA4CD6E7C3A1168D3",
		"abc 123 abcd abcd abc abc":                   "7A320748F780AD9AD5B0837302075CE0EEBA6C26E3D8562C67CCC0F1B273298A",
		"foo bar food bass":                           "17BEAA1648BAFA633CDA809C90C04AF50FC8AED3CB40D16EFBDDEE6FDF63C4C3",
		"be e dog puppy bed d":                        "3F67C7A47520F79FAA29255D2D3C084A7A6DF0453116ED7232FF10277A8BE68B",
		"test test te testy":                          "8452568AF70D8D140F58D941338542F645FCCA50094B20F3C3D8C3DF49337928",
		"do verb horse stallion doge coin dog puppy ": "5991BB8C6514148A29DB676A14AC506CD2CD5775ACE63C30A4FE457715E9AC84",
	} {
		if h := filled(t, wordy(s)).Root(); fmt.Sprintf("%X", h) != want {
			t.Errorf("P14.2: %s: %X", s, h)
		}
	}
}

// TestNodesExample: their order, by hand: the leaves 11 and 12, the list above them, the leaf 21, the list above both.
func TestNodesExample(t *testing.T) {
	long := strings.Repeat("v", 40)
	x := filled(t, map[string]string{"\x21": "c" + long, "\x12": "b" + long, "\x11": "a" + long})
	code := func(y api.Item) api.Item {
		h := keccak.Sum(encoded(y))
		return text(h[:])
	}
	a, b, c := leaf("", text([]byte("a"+long))), leaf("", text([]byte("b"+long))), leaf("\x01", text([]byte("c"+long)))
	inner := fork(map[int]api.Item{1: code(a), 2: code(b)})
	outer := fork(map[int]api.Item{1: code(inner), 2: code(c)})
	var want []api.Node
	for _, y := range []api.Item{a, b, inner, c, outer} {
		want = append(want, api.Node{Hash: api.Hash(code(y).Bytes), Bytes: encoded(y)})
	}
	if got := x.Nodes(); !alike(got, want) {
		t.Errorf("P14.5: %s", sayNodes(got))
	}
}

// TestNodesOnce: parts that are alike are told once, where they come first.
func TestNodesOnce(t *testing.T) {
	long := strings.Repeat("v", 40)
	m := map[string]string{}
	for _, a := range "\x11\x12\x21\x22\x41" {
		for _, b := range "\x11\x12" {
			m[string([]byte{byte(a), byte(b)})] = long
		}
	}
	x := filled(t, m)
	isMap(t, x, m)
	// A leaf, a list, a path and lists above them.
	if l := x.Nodes(); len(l) != 6 {
		t.Errorf("P14.5: %d nodes:\n%s", len(l), sayNodes(l))
	}
}

// TestLimits: keys and values at their limits and beyond: which error is told first, and that nothing changes.
func TestLimits(t *testing.T) {
	m := map[string]string{"": "e", "k": "x", strings.Repeat("k", 64): "y"}
	x := filled(t, m)
	empty := trie.New(trie.Empty(), nil)
	lost := trie.New(api.Hash{1}, nil)
	for _, c := range []struct {
		key, value int
		want       api.Errno
	}{
		{65, 1, api.ErrTrieKey}, {65, 0, api.ErrTrieKey}, {65, 1025, api.ErrTrieKey}, {66, 1, api.ErrTrieKey}, {5000, 1, api.ErrTrieKey}, {64, 0, api.ErrTrieValue}, {64, 1025, api.ErrTrieValue},
		{0, 0, api.ErrTrieValue}, {0, 1025, api.ErrTrieValue}, {1, 70000, api.ErrTrieValue},
	} {
		key, value := []byte(strings.Repeat("k", c.key)), []byte(strings.Repeat("v", c.value))
		for _, y := range []*trie.Trie{x, empty, lost} {
			if e := y.Put(key, value); e != c.want {
				t.Errorf("P14.5: Put of %d and %d bytes: %d", c.key, c.value, e)
			}
			if c.key <= 64 {
				continue
			}
			v, ok, e := y.Get(key)
			if f := y.Delete(key); len(v) != 0 || ok || e != api.ErrTrieKey || f != api.ErrTrieKey {
				t.Errorf("P14.4, P14.5: of %d bytes: %x, %v, %d, %d", c.key, v, ok, e, f)
			}
		}
	}
	isMap(t, x, m)
	isMap(t, empty, nil)
	for _, size := range []int{1, 2, 1023, 1024} {
		for _, length := range []int{0, 1, 63, 64} {
			m[strings.Repeat("k", length)] = strings.Repeat("v", size)
			put(t, x, strings.Repeat("k", length), strings.Repeat("v", size))
			isMap(t, x, m)
		}
	}
	tellsAll(t, x, m)
}

// orders: all orders of the numbers below n.
func orders(n int) [][]int {
	if n == 0 {
		return [][]int{nil}
	}
	var l [][]int
	for _, o := range orders(n - 1) {
		for at := range n {
			l = append(l, slices.Insert(slices.Clone(o), at, n-1))
		}
	}
	return l
}

// rows: a few keys that part in many ways.
var rows = [][]string{
	{"", "\x10", "\x12", "\x12\x34"},
	{"\x12", "\x12\x34", "\x12\x35", "\x12\x45"},
	{"\x11\x11", "\x11\x12", "\x11\x21", "\x12\x11"},
	{"\x11", "\x21", "\x31", "\x41"},
	{"\xAA\xAA\xAA", "\xAA\xAA\xAB", "\xAA\xBA\xAA", ""},
	{"\x01\x02\x03", "\x01", "\x01\x02", ""},
	{"\x11\x22\x33\x44", "\x11\x22\x33\x54", "\x11\x22\x43", "\x11\x22\x43\x44"},
}

// TestOrders: each order of a few keys put, put again, and each order deleted: at each moment the root and the nodes of what is there.
func TestOrders(t *testing.T) {
	for _, size := range []int{1, 12, 40} {
		for _, keys := range rows {
			models := map[string]*reckoned{}
			check := func(x *trie.Trie, there []bool) {
				t.Helper()
				name := fmt.Sprint(there)
				if models[name] == nil {
					m := map[string]string{}
					for i, ok := range there {
						if ok {
							m[keys[i]] = strings.Repeat(fmt.Sprint(i), size)
						}
					}
					models[name] = reckon(m)
				}
				if k := models[name]; x.Root() != k.root {
					t.Fatalf("P14.6: %q: the root %x", k.m, x.Root())
				}
			}
			for i, o := range orders(len(keys)) {
				there := make([]bool, len(keys))
				x := trie.New(trie.Empty(), nil)
				for _, k := range o {
					put(t, x, keys[k], "first")
					put(t, x, keys[k], strings.Repeat(fmt.Sprint(k), size))
					there[k] = true
					check(x, there)
				}
				full, nodes := x.Root(), x.Nodes()
				for k := range keys {
					put(t, x, keys[k], strings.Repeat(fmt.Sprint(k), size))
				}
				if x.Root() != full || !alike(x.Nodes(), nodes) {
					t.Fatalf("P14.7: %q put again", keys)
				}
				for j, p := range orders(len(keys)) {
					if (i+j)%5 != 0 {
						continue
					}
					y := trie.New(full, nodes)
					left := slices.Clone(there)
					for _, k := range p {
						remove(t, y, keys[k])
						left[k] = false
						check(y, left)
					}
				}
			}
		}
	}
}

// drawnKey: short, of few halves, so that keys often begin alike.
func drawnKey(r *rand.Rand) string {
	b := make([]byte, r.Intn(5))
	for i := range b {
		b[i] = []byte{0x00, 0x01, 0x10, 0x11, 0x12, 0x21, 0xFF}[r.Intn(7)]
	}
	return string(b)
}

func drawnValue(r *rand.Rand) string {
	return strings.Repeat(string([]byte{byte(r.Intn(3))}), []int{1, 2, 5, 10, 27, 28, 29, 30, 31, 32, 40}[r.Intn(11)])
}

// TestDrawn: keys put and deleted at random; now and then the trie is made anew over all nodes that there are.
func TestDrawn(t *testing.T) {
	for seed := range int64(60) {
		r := rand.New(rand.NewSource(seed))
		m := map[string]string{}
		x := trie.New(trie.Empty(), nil)
		var old []api.Node
		for range 80 {
			key := drawnKey(r)
			if there := slices.Sorted(maps.Keys(m)); len(there) > 0 && r.Intn(2) == 0 {
				key = there[r.Intn(len(there))]
			}
			if r.Intn(5) < 3 {
				value := drawnValue(r)
				put(t, x, key, value)
				m[key] = value
			} else {
				remove(t, x, key)
				delete(m, key)
			}
			tells(t, x, m, key)
			tells(t, x, m, drawnKey(r))
			if old == nil {
				isMap(t, x, m)
			} else {
				covers(t, x, old, m)
			}
			if r.Intn(20) == 0 {
				tellsAll(t, x, m)
				old = slices.Concat(old, x.Nodes())
				x = trie.New(x.Root(), old)
			}
		}
	}
}

// TestMany: hashed keys, as accounts have them.
func TestMany(t *testing.T) {
	m, x := map[string]string{}, trie.New(trie.Empty(), nil)
	for i := range 700 {
		k := string(trie.Secure([]byte(fmt.Sprint(i))))
		m[k] = strings.Repeat("v", 1+i%70)
		put(t, x, k, m[k])
	}
	isMap(t, x, m)
	old := x.Nodes()
	y := trie.New(x.Root(), old)
	for i, k := range slices.Sorted(maps.Keys(m)) {
		tells(t, y, m, k)
		if i%3 == 0 {
			remove(t, y, k)
			remove(t, x, k)
			delete(m, k)
		}
	}
	isMap(t, x, m)
	covers(t, y, old, m)
}

// TestSame: a Put of what is there, and a Delete of what isn't, of a trie of its own nodes and of one over others.
func TestSame(t *testing.T) {
	for what, m := range someMaps() {
		own := filled(t, m)
		root, nodes := own.Root(), own.Nodes()
		over := trie.New(root, nodes)
		for _, x := range []*trie.Trie{own, over} {
			before := x.Nodes()
			for k, v := range m {
				put(t, x, k, v)
				for _, other := range near(k) {
					if _, ok := m[other]; !ok {
						remove(t, x, other)
					}
				}
			}
			if x.Root() != root || !alike(x.Nodes(), before) {
				t.Fatalf("P14.7: %s", what)
			}
		}
	}
}
