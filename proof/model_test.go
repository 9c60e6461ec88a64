package proof_test

import (
	"bytes"
	"encoding/hex"
	"fmt"
	"maps"
	"math/rand"
	"slices"
	"strings"
	"testing"

	"moraine/api"
	"moraine/keccak"
	"moraine/rlp"
	"moraine/trie"
)

// In these tests a path is a text of hexadecimal digits, a nibble each.

func digits(key string) string { return hex.EncodeToString([]byte(key)) }

func unhex(s string) string {
	b, err := hex.DecodeString(s)
	if err != nil {
		panic(err)
	}
	return string(b)
}

func text(s string) api.Item { return api.Item{Bytes: []byte(s)} }

func list(l ...api.Item) api.Item { return api.Item{List: true, Items: l} }

// packed: P14.1's words, written digit by digit.
func packed(path string, isLeaf bool) api.Item {
	f := len(path) % 2
	if isLeaf {
		f += 2
	}
	ahead := fmt.Sprint(f)
	if len(path)%2 == 0 {
		ahead += "0"
	}
	return text(unhex(ahead + path))
}

func leaf(path, value string) api.Item { return list(packed(path, true), text(value)) }

func way(path string, ref api.Item) api.Item { return list(packed(path, false), ref) }

// fork: a list of 17 with these at their places, and a value at 16.
func fork(parts map[int]api.Item) api.Item {
	x := list(make([]api.Item, 17)...)
	for i, y := range parts {
		x.Items[i] = y
	}
	return x
}

// full: a list of 17 that refers to the same at each nibble.
func full(ref api.Item) api.Item {
	x := fork(nil)
	for i := range 16 {
		x.Items[i] = ref
	}
	return x
}

func encoded(x api.Item) []byte {
	b, e := rlp.Encode(x)
	if e != api.OK {
		panic(e)
	}
	return b
}

func nodeOf(x api.Item) api.Node {
	b := encoded(x)
	return api.Node{Hash: keccak.Sum(b), Bytes: b}
}

func hashed(h api.Hash) api.Item { return api.Item{Bytes: h[:]} }

// byHash: how an item is referred to by its hash, be it as short as it may.
func byHash(x api.Item) api.Item { return hashed(nodeOf(x).Hash) }

// refer: how P14.2 says that an item is referred to.
func refer(x api.Item) api.Item {
	if len(encoded(x)) < 32 {
		return x
	}
	return byHash(x)
}

// itemOf: P14.2's item from the nibble i on of a map, which isn't empty, from paths to values.
func itemOf(m map[string]string, i int) api.Item {
	keys := slices.Sorted(maps.Keys(m))
	least, most := keys[0][i:], keys[len(keys)-1][i:]
	j := 0
	for j < len(least) && j < len(most) && least[j] == most[j] {
		j++
	}
	switch {
	case len(m) == 1:
		return leaf(least, m[keys[0]])
	case j > 0:
		return way(least[:j], refer(itemOf(m, i+j)))
	}
	x := fork(nil)
	for nibble := range 16 {
		if part := within(m, keys[0][:i]+fmt.Sprintf("%x", nibble)); len(part) > 0 {
			x.Items[nibble] = refer(itemOf(part, i+1))
		}
	}
	x.Items[16] = text(m[keys[0][:i]])
	return x
}

// within: the part of a map whose keys begin with a path.
func within(m map[string]string, path string) map[string]string {
	m = maps.Clone(m)
	maps.DeleteFunc(m, func(k, _ string) bool { return !strings.HasPrefix(k, path) })
	return m
}

// made: the trie of a map, by layer 14.
func made(m map[string]string) (api.Hash, []api.Node) {
	x := trie.New(trie.Empty(), nil)
	for _, k := range slices.Sorted(maps.Keys(m)) {
		if e := x.Put([]byte(k), []byte(m[k])); e != api.OK {
			panic(e)
		}
	}
	return x.Root(), x.Nodes()
}

// sight: what stands at a path at which something is referred to.
type sight struct {
	path   string
	ref    string // the reference's encoding
	byHash bool
	hash   api.Hash
	code   []byte
	flaw   api.Errno // why it can't be gone through
	end    string    // the path of its value
	value  string
}

// sights: all of a trie, from the root on, a node ahead of what it refers to, the lower nibble first: which is how their paths rise.
func sights(l []api.Node, root api.Hash) []sight {
	var all []sight
	var at func(path string, ref api.Item)
	at = func(path string, ref api.Item) {
		if !ref.List && len(ref.Bytes) == 0 {
			return
		}
		s := sight{path: path, ref: string(encoded(ref)), byHash: !ref.List}
		if s.byHash {
			s.hash = api.Hash(ref.Bytes)
			i := slices.IndexFunc(l, func(n api.Node) bool { return n.Hash == s.hash })
			switch {
			case len(path) > 128:
				s.flaw = api.ErrProofForm
			case i < 0:
				s.flaw = api.ErrProofNode
			case trie.Check(l[i].Bytes) != api.OK || keccak.Sum(l[i].Bytes) != s.hash:
				s.flaw = api.ErrProofForm
			default:
				s.code = l[i].Bytes
				ref, _ = rlp.Decode(s.code)
			}
		}
		if s.flaw != api.OK {
			all = append(all, s)
			return
		}
		if len(ref.Items) == 17 {
			s.end, s.value = path, string(ref.Items[16].Bytes)
			all = append(all, s)
			for i, y := range ref.Items[:16] {
				at(path+fmt.Sprintf("%x", i), y)
			}
			return
		}
		own := digits(string(ref.Items[0].Bytes))
		isLeaf := own[0] >= '2'
		if own[0]%2 == 0 {
			own = own[1:]
		}
		if own = own[1:]; isLeaf {
			s.end, s.value = path+own, string(ref.Items[1].Bytes)
			all = append(all, s)
			return
		}
		all = append(all, s)
		at(path+own, ref.Items[1])
	}
	if root != trie.Empty() {
		at("", hashed(root))
	}
	return all
}

// isLong: that the value of a sight stands where no key ends, or the sight itself where none goes on.
func (s sight) isLong() bool {
	return len(s.path) > 128 || s.value != "" && (len(s.end) > 128 || len(s.end)%2 == 1)
}

// wrong: what is told of a sight that must be looked at; OK, if nothing is wrong.
func (s sight) wrong() api.Errno {
	if s.flaw == api.OK && s.isLong() {
		return api.ErrProofForm
	}
	return s.flaw
}

// without: a list but for the nodes of these hashes.
func without(l []api.Node, gone ...api.Hash) []api.Node {
	return slices.DeleteFunc(slices.Clone(l), func(n api.Node) bool { return slices.Contains(gone, n.Hash) })
}

// only: a list's nodes of these hashes.
func only(l []api.Node, kept ...api.Hash) []api.Node {
	return slices.DeleteFunc(slices.Clone(l), func(n api.Node) bool { return !slices.Contains(kept, n.Hash) })
}

// hashes: of the nodes of sights, each once, in order.
func hashes(all []sight, take func(s sight) bool) []api.Hash {
	var l []api.Hash
	for _, s := range all {
		if s.byHash && take(s) && !slices.Contains(l, s.hash) {
			l = append(l, s.hash)
		}
	}
	return l
}

// longList: a list, and so many nodes behind it that nobody needs that it has n.
func longList(l []api.Node, n int) []api.Node {
	l = slices.Clone(l)
	for i := len(l); i < n; i++ {
		l = append(l, api.Node{Hash: keccak.Sum([]byte(fmt.Sprint("loose", i)))})
	}
	return l
}

func sayNodes(l []api.Node) string {
	var s strings.Builder
	for _, n := range l {
		fmt.Fprintf(&s, "%x: %x\n", n.Hash[:4], n.Bytes)
	}
	return s.String()
}

func sayEntries(l []api.KV) string {
	var s strings.Builder
	for _, x := range l {
		fmt.Fprintf(&s, "%x: %x\n", x.Key, x.Value)
	}
	return s.String()
}

// kvs: a map's entries, rising.
func kvs(m map[string]string) []api.KV {
	var l []api.KV
	for _, k := range slices.Sorted(maps.Keys(m)) {
		l = append(l, api.KV{Key: []byte(k), Value: []byte(m[k])})
	}
	return l
}

// near: keys that aren't far from key: its beginnings, and what goes on behind it or beside it.
func near(key string) []string {
	l := []string{"", key, key + "\x00", key + "\xFF"}
	for i := range len(key) {
		for _, bit := range []byte{0x01, 0x10, 0x80} {
			b := []byte(key)
			b[i] ^= bit
			l = append(l, key[:i], string(b), string(b[:i+1]))
		}
	}
	return l
}

// nearAll: some of a map's keys and of those near them; of a small map all.
func nearAll(m map[string]string, some int) []string {
	met := map[string]struct{}{"": {}}
	for k := range m {
		for _, other := range near(k) {
			met[other] = struct{}{}
		}
	}
	var l []string
	for i, k := range slices.Sorted(maps.Keys(met)) {
		if i%(1+len(met)/some) == 0 {
			l = append(l, k)
		}
	}
	return l
}

// someOf: places of a list of n: the first and last ones, and some between them.
func someOf(n int) []int {
	var l []int
	for i := range n {
		if i < 3 || i >= n-3 || i%17 == 0 {
			l = append(l, i)
		}
	}
	return l
}

var long = strings.Repeat("v", 40)

// worlds: maps whose tries have nodes of all kinds, by hash and within others.
func worlds() []map[string]string {
	l := []map[string]string{
		{}, {"": "x"}, {"k": long}, {"": long, "\x00": "y"},
		{"do": "verb", "dog": "puppy", "doge": "coin", "horse": "stallion"},
		{"\x11\x11": long, "\x11\x21": "x" + long, "\x21\x11": long, "\x21\x21": "x" + long, "\x31": "z"},
		{"\x12\x34\x56": "a", "\x12\x34\x57": "b", "\x12\x34\x66": "c", "\x12\x44": "d", "\x13": "e"},
	}
	for _, size := range []int{1, 30} {
		deep, same, ends := map[string]string{}, map[string]string{}, map[string]string{}
		whole := strings.Repeat("\x5A", 64)
		for i := range 64 {
			deep[whole[:i]+"\xA5"+whole[i+1:]] = strings.Repeat(fmt.Sprint(i), size)
			ends[whole[:i]] = strings.Repeat(fmt.Sprint(i), size)
			same[string([]byte{byte(i) << 4, byte(i) & 0x33, 7})] = strings.Repeat("s", size)
		}
		deep[whole], ends[whole] = "deep", "deep"
		l = append(l, deep, same, ends)
	}
	r := rand.New(rand.NewSource(16))
	for range 10 {
		m := map[string]string{}
		for i := range 1 + r.Intn(30) {
			m[drawnKey(r)] = strings.Repeat(fmt.Sprint(i%3), 1+r.Intn(2)*r.Intn(40))
		}
		l = append(l, m)
	}
	return l
}

// drawnKey: often one that begins like another one.
func drawnKey(r *rand.Rand) string {
	b := make([]byte, []int{0, 1, 1, 2, 2, 3, 4, 32, 64}[r.Intn(9)])
	for i := range b {
		b[i] = []byte{0x11, 0x11, 0x12, 0x21, 0xF1, 0x1F}[r.Intn(6)]
	}
	return string(b)
}

// seeded runs a test by several seeds, side by side.
func seeded(t *testing.T, count int, test func(t *testing.T, r *rand.Rand)) {
	for seed := range count {
		t.Run(fmt.Sprint(seed), func(t *testing.T) {
			t.Parallel()
			test(t, rand.New(rand.NewSource(int64(seed))))
		})
	}
}

// TestModel: that the tests' own reckoning of tries is layer 14's.
func TestModel(t *testing.T) {
	for _, m := range worlds() {
		root, l := made(m)
		nibbles := map[string]string{}
		for k, v := range m {
			nibbles[digits(k)] = v
		}
		if len(m) > 0 && nodeOf(itemOf(nibbles, 0)).Hash != root {
			t.Fatalf("another root: %q", m)
		}
		got := map[string]string{}
		for _, s := range sights(l, root) {
			if s.wrong() != api.OK {
				t.Fatal(s)
			}
			if s.value != "" {
				got[unhex(s.end)] = s.value
			}
		}
		if !maps.Equal(got, m) {
			t.Fatalf("%q, not %q", got, m)
		}
		for _, n := range l {
			if !bytes.Equal(encoded(must(rlp.Decode(n.Bytes))), n.Bytes) {
				t.Fatal("no such node")
			}
		}
	}
}

func must(x api.Item, e api.Errno) api.Item {
	if e != api.OK {
		panic(e)
	}
	return x
}
