package trie_test

import (
	"bytes"
	"encoding/hex"
	"fmt"
	"maps"
	"slices"
	"strings"
	"testing"

	"moraine/api"
	"moraine/keccak"
	"moraine/rlp"
	"moraine/trie"
)

// place: an item of the trie of a map, by P14.2's words.
type place struct {
	item  api.Item
	code  []byte
	hash  api.Hash
	path  string     // of one key, or of several: a nibble a byte
	fork  bool       // a list of 17
	below [16]*place // of a path: below[0]
	value string
}

// byHash: whether what is above refers to it by its hash.
func (p *place) byHash() bool { return len(p.code) >= 32 }

func (p *place) reference() api.Item {
	if p.byHash() {
		return api.Item{Bytes: p.hash[:]}
	}
	return p.item
}

// halves: P14.1's words: of each byte its upper, then its lower half.
func halves(key string) string {
	l := ""
	for i := range len(key) {
		l += string([]byte{key[i] / 16, key[i] % 16})
	}
	return l
}

// packByWords: the nibbles that P14.1 says, written one behind the other.
func packByWords(path string, leaf bool) []byte {
	f, digits := len(path)%2, ""
	if leaf {
		f += 2
	}
	digits += fmt.Sprintf("%x", f)
	if len(path)%2 == 0 {
		digits += "0"
	}
	for i := range len(path) {
		digits += fmt.Sprintf("%x", path[i])
	}
	return unhex(digits)
}

func unhex(s string) []byte {
	b, err := hex.DecodeString(strings.ReplaceAll(s, " ", ""))
	if err != nil {
		panic(err)
	}
	return b
}

// begun: how many nibbles from i on all keys have in common.
func begun(m map[string]string, i int) int {
	least, most := "", ""
	for n, k := range slices.Sorted(maps.Keys(m)) {
		if n == 0 {
			least = k
		}
		most = k
	}
	j := 0
	for i+j < len(least) && i+j < len(most) && least[i+j] == most[i+j] {
		j++
	}
	return j
}

// placeOf: the item from the nibble i on of a map, which isn't empty, from nibbles to values.
func placeOf(m map[string]string, i int) *place {
	p := &place{item: api.Item{List: true}}
	j := begun(m, i)
	switch {
	case len(m) == 1:
		for k, v := range m {
			p.path, p.value = k[i:], v
		}
		p.item.Items = []api.Item{{Bytes: packByWords(p.path, true)}, {Bytes: []byte(p.value)}}
	case j > 0:
		for k := range m {
			p.path = k[i : i+j]
		}
		p.below[0] = placeOf(m, i+j)
		p.item.Items = []api.Item{{Bytes: packByWords(p.path, false)}, p.below[0].reference()}
	default:
		p.fork = true
		for nibble := range byte(16) {
			part := map[string]string{}
			for k, v := range m {
				if len(k) == i {
					p.value = v
				} else if k[i] == nibble {
					part[k] = v
				}
			}
			var ref api.Item
			if len(part) > 0 {
				p.below[nibble] = placeOf(part, i+1)
				ref = p.below[nibble].reference()
			}
			p.item.Items = append(p.item.Items, ref)
		}
		p.item.Items = append(p.item.Items, api.Item{Bytes: []byte(p.value)})
	}
	var e api.Errno
	if p.code, e = rlp.Encode(p.item); e != api.OK {
		panic(e)
	}
	p.hash = keccak.Sum(p.code)
	return p
}

// reckoned: a map, and what P14.2 says of it.
type reckoned struct {
	m     map[string]string
	top   *place // its item from 0 on; nil of the empty map
	root  api.Hash
	nodes []api.Node // in the order of P14.5
}

func reckon(m map[string]string) *reckoned {
	if len(m) == 0 {
		return &reckoned{m: m, root: keccak.Sum([]byte{0x80})}
	}
	nibbles := map[string]string{}
	for k, v := range m {
		nibbles[halves(k)] = v
	}
	top := placeOf(nibbles, 0)
	return &reckoned{m, top, top.hash, nodesOf(top)}
}

// nodesOf: the nodes of an item and below it: children ahead of what refers to them, the lower nibble first, each once.
func nodesOf(top *place) []api.Node {
	var l []api.Node
	met := map[api.Hash]bool{}
	var walk func(p *place)
	walk = func(p *place) {
		for _, q := range p.below {
			if q != nil && q.byHash() {
				walk(q)
			}
		}
		if !met[p.hash] {
			met[p.hash] = true
			l = append(l, api.Node{Hash: p.hash, Bytes: p.code})
		}
	}
	walk(top)
	return l
}

// alike: whether two lists have the same nodes, in one order.
func alike(a, b []api.Node) bool {
	return slices.EqualFunc(a, b, func(x, y api.Node) bool { return x.Hash == y.Hash && bytes.Equal(x.Bytes, y.Bytes) })
}

// sayNodes: a list of nodes as a text.
func sayNodes(l []api.Node) string {
	var s strings.Builder
	for _, x := range l {
		fmt.Fprintf(&s, "%x: %x\n", x.Hash[:4], x.Bytes)
	}
	return s.String()
}

// filled: a trie from the root Empty(), with a map's keys put as they rise.
func filled(t *testing.T, m map[string]string) *trie.Trie {
	t.Helper()
	x := trie.New(trie.Empty(), nil)
	for _, k := range slices.Sorted(maps.Keys(m)) {
		put(t, x, k, m[k])
	}
	return x
}

func put(t *testing.T, x *trie.Trie, key, value string) {
	t.Helper()
	if e := x.Put([]byte(key), []byte(value)); e != api.OK {
		t.Fatalf("P14.5: Put(%x, %.20x): %d", key, value, e)
	}
}

func remove(t *testing.T, x *trie.Trie, key string) {
	t.Helper()
	if e := x.Delete([]byte(key)); e != api.OK {
		t.Fatalf("P14.5: Delete(%x): %d", key, e)
	}
}

// tells: that Get tells of a key what the map does.
func tells(t *testing.T, x *trie.Trie, m map[string]string, key string) {
	t.Helper()
	want, there := m[key]
	if v, ok, e := x.Get([]byte(key)); string(v) != want || ok != there || e != api.OK {
		t.Fatalf("P14.4: Get(%x): %.20x, %v, %d, not %.20x, %v", key, v, ok, e, want, there)
	}
}

// near: keys that aren't far from key: its beginnings, and what goes on behind it or beside it.
func near(key string) []string {
	l := []string{""}
	for i := range len(key) {
		for _, bit := range []byte{0x01, 0x10, 0x80} {
			b := []byte(key)
			b[i] ^= bit
			l = append(l, key[:i], string(b), string(b[:i+1]))
		}
	}
	if len(key) < 64 {
		l = append(l, key+"\x00", key+"\xFF")
	}
	return l
}

// tellsAll: of a map's keys, and of those near them.
func tellsAll(t *testing.T, x *trie.Trie, m map[string]string) {
	t.Helper()
	tells(t, x, m, "")
	for k := range m {
		tells(t, x, m, k)
		for _, other := range near(k) {
			tells(t, x, m, other)
		}
	}
}
