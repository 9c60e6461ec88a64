package triedb_test

import (
	"bytes"
	"errors"
	"fmt"
	"maps"
	"math/bits"
	"math/rand"
	"slices"
	"strings"
	"testing"

	"moraine/api"
	"moraine/disk"
	"moraine/keccak"
	"moraine/lsm"
	"moraine/rawdb"
	"moraine/rlp"
	"moraine/trie"
	"moraine/triedb"
)

// seeded runs a test by several seeds, side by side.
func seeded(t *testing.T, count int, test func(t *testing.T, r *rand.Rand)) {
	for seed := range count {
		t.Run(fmt.Sprint(seed), func(t *testing.T) {
			t.Parallel()
			test(t, rand.New(rand.NewSource(int64(seed))))
		})
	}
}

func newDisk(t *testing.T, capacity int) *disk.Disk {
	t.Helper()
	d, e := disk.New(capacity)
	if e != api.OK {
		t.Fatal(e)
	}
	return d
}

// options: small sizes, so that there is much to flush and to merge.
func options() api.Options {
	return api.Options{
		Plan:    api.Plan{Block: 256, Restart: 4, Bits: 10, Table: 500},
		Sizes:   api.Sizes{Tables0: 2, Bytes1: 1500, Factor: 2},
		Heights: []int{1, 2, 1, 3},
	}
}

// greatOptions: for stores with much in them.
func greatOptions() api.Options {
	o := options()
	o.Plan, o.Heights = api.Plan{Block: 4096, Restart: 16, Bits: 10, Table: 1 << 20}, nil
	for i := range 64 { // as many as halving gives, so that the store finds its way soon
		o.Heights = append(o.Heights, 1+bits.TrailingZeros(uint(i+1)))
	}
	return o
}

// is: whether an error is that number, wrapped as chapter 11 says: faults, one in the other, and the number at their end.
func is(err error, want api.Errno) bool {
	if want == api.OK {
		return err == nil
	}
	var f *api.Fault
	var n api.Errno
	if !errors.As(err, &f) || error(f) != err || !errors.Is(err, want) || !errors.As(err, &n) || n != want || api.Of(err) != want {
		return false
	}
	for {
		in, ok := err.(*api.Fault)
		if !ok {
			return err == error(want)
		}
		err = in.Err
	}
}

func text(b []byte) api.Item { return api.Item{Bytes: b} }

func list(l ...api.Item) api.Item { return api.Item{List: true, Items: l} }

// sized: a string of so many bytes.
func sized(n int) api.Item { return text(bytes.Repeat([]byte{0xAB}, n)) }

func hashed(h api.Hash) api.Item { return text(h[:]) }

func packed(path string, isLeaf bool) api.Item {
	b, e := trie.Pack([]byte(path), isLeaf)
	if e != api.OK {
		panic(e)
	}
	return text(b)
}

func leaf(path string, value []byte) api.Item { return list(packed(path, true), text(value)) }

func way(path string, ref api.Item) api.Item { return list(packed(path, false), ref) }

// fork: a list of 17 with these at their places, and a value at 16.
func fork(parts map[int]api.Item) api.Item {
	x := list(make([]api.Item, 17)...)
	for i, y := range parts {
		x.Items[i] = y
	}
	return x
}

func encoded(x api.Item) []byte {
	b, e := rlp.Encode(x)
	if e != api.OK {
		panic(e)
	}
	return b
}

// nodeOf: the node that an item is.
func nodeOf(x api.Item) api.Node {
	b := encoded(x)
	return api.Node{Hash: keccak.Sum(b), Bytes: b}
}

// record: the value of an account with that storage.
func record(storage api.Hash) []byte {
	return encoded(list(text([]byte{7}), text([]byte("balance")), hashed(storage), sized(32)))
}

// made: the trie of keys that part at their first nibbles, each with a value that is too long to stand within another node: as many leaves, and a list of 17.
func made(values ...string) (api.Hash, []api.Node) {
	x := trie.New(trie.Empty(), nil)
	for i, v := range values {
		if e := x.Put([]byte{byte(i * 16), 1}, []byte(strings.Repeat("v", 40)+v)); e != api.OK {
			panic(e)
		}
	}
	return x.Root(), x.Nodes()
}

// without: a list but for the nodes of these hashes.
func without(l []api.Node, gone ...api.Hash) []api.Node {
	return slices.DeleteFunc(slices.Clone(l), func(x api.Node) bool { return slices.Contains(gone, x.Hash) })
}

// model: nodes by the chapter's words.
type model struct {
	clean, dirty map[api.Hash]string
	held         map[api.Hash]int
}

func newModel() *model {
	return &model{clean: map[api.Hash]string{}, dirty: map[api.Hash]string{}, held: map[api.Hash]int{}}
}

// valuesIn: the values in a node, and in the lists that stand in it.
func valuesIn(x api.Item) [][]byte {
	var l [][]byte
	refs := x.Items
	if len(x.Items) == 17 {
		refs = x.Items[:16]
		l = append(l, x.Items[16].Bytes)
	} else if _, isLeaf, _ := trie.Unpack(x.Items[0].Bytes); isLeaf {
		return [][]byte{x.Items[1].Bytes}
	}
	for _, y := range refs {
		if y.List {
			l = append(l, valuesIn(y)...)
		}
	}
	return l
}

// leadsTo: what P15.1 says is reached from a node at once.
func leadsTo(b string) []api.Hash {
	l, e := trie.Children([]byte(b))
	if e != api.OK {
		panic(e)
	}
	x, _ := rlp.Decode([]byte(b))
	for _, v := range valuesIn(x) {
		y, e := rlp.Decode(v)
		if e != api.OK || !y.List || len(y.Items) != 4 || len(y.Items[2].Bytes) != 32 {
			continue
		}
		if !slices.ContainsFunc(y.Items, func(z api.Item) bool { return z.List }) {
			l = append(l, api.Hash(y.Items[2].Bytes))
		}
	}
	return l
}

// reached: which nodes are reached from roots, through those that are dirty or in l.
func (m *model) reached(l map[api.Hash]string, roots ...api.Hash) map[api.Hash]string {
	met := map[api.Hash]string{}
	for len(roots) > 0 {
		h := roots[0]
		roots = roots[1:]
		b, there := m.dirty[h]
		if !there {
			b, there = l[h]
		}
		if _, again := met[h]; there && !again {
			met[h] = b
			roots = append(roots, leadsTo(b)...)
		}
	}
	return met
}

// insert: what Insert does, and answers of a store that tells no error.
func (m *model) insert(root api.Hash, l []api.Node) api.Errno {
	given := map[api.Hash]string{}
	for _, x := range l {
		if trie.Check(x.Bytes) != api.OK || keccak.Sum(x.Bytes) != x.Hash {
			return api.ErrTrieForm
		}
		given[x.Hash] = string(x.Bytes)
	}
	for h, b := range m.reached(given, root) {
		if _, clean := m.clean[h]; !clean {
			m.dirty[h] = b
		}
	}
	m.held[root]++
	return api.OK
}

func (m *model) drop(root api.Hash) api.Errno {
	if m.held[root] == 0 {
		return api.ErrTriedbRoot
	}
	if m.held[root]--; m.held[root] == 0 {
		delete(m.held, root)
	}
	m.dirty = m.reached(nil, slices.Collect(maps.Keys(m.held))...)
	return api.OK
}

// toCommit: what Commit writes; false, if there is no such root.
func (m *model) toCommit(root api.Hash) (map[api.Hash]string, bool) {
	_, clean := m.clean[root]
	return m.reached(nil, root), m.held[root] > 0 || clean || root == trie.Empty()
}

func (m *model) commit(root api.Hash) api.Errno {
	l, ok := m.toCommit(root)
	if !ok {
		return api.ErrTriedbRoot
	}
	for h, b := range l {
		m.clean[h] = b
		delete(m.dirty, h)
	}
	return api.OK
}

func (m *model) get(h api.Hash) (string, bool) {
	if b, ok := m.dirty[h]; ok {
		return b, true
	}
	b, ok := m.clean[h]
	return b, ok
}

// nodes: all that can be read.
func (m *model) nodes() []api.Node {
	var l []api.Node
	for _, part := range []map[api.Hash]string{m.dirty, m.clean} {
		for h, b := range part {
			l = append(l, api.Node{Hash: h, Bytes: []byte(b)})
		}
	}
	return l
}

// bench: a DB, what it stands on, and its model.
type bench struct {
	d     *disk.Disk
	o     api.Options
	store *lsm.DB
	x     *triedb.DB
	m     *model
	met   map[api.Hash]struct{} // hashes of all nodes that it was ever told of
}

func newBench(t *testing.T) *bench {
	t.Helper()
	return benchOn(t, newDisk(t, 1<<22), options())
}

func benchOn(t *testing.T, d *disk.Disk, o api.Options) *bench {
	t.Helper()
	b := &bench{d: d, o: o, m: newModel(), met: map[api.Hash]struct{}{}}
	b.open(t)
	return b
}

// open: anew, of what is on the disk: nothing is dirty, and no root is held.
func (b *bench) open(t *testing.T) {
	t.Helper()
	var err error
	if b.store, err = lsm.Open(b.d, b.o); err != nil {
		t.Fatal(err)
	}
	b.x = triedb.New(b.store)
	b.m.dirty, b.m.held = map[api.Hash]string{}, map[api.Hash]int{}
}

func (b *bench) insert(t *testing.T, root api.Hash, l []api.Node) api.Errno {
	t.Helper()
	b.met[root] = struct{}{}
	for _, n := range l {
		b.met[n.Hash] = struct{}{}
	}
	want := b.m.insert(root, l)
	if err := b.x.Insert(root, l); !is(err, want) {
		t.Fatalf("P15.1: Insert: %v, not %d", err, want)
	}
	b.agrees(t)
	return want
}

func (b *bench) drop(t *testing.T, root api.Hash) api.Errno {
	t.Helper()
	want := b.m.drop(root)
	if err := b.x.Drop(root); !is(err, want) {
		t.Fatalf("P15.2: Drop: %v, not %d", err, want)
	}
	b.agrees(t)
	return want
}

func (b *bench) commit(t *testing.T, root api.Hash) api.Errno {
	t.Helper()
	last := b.store.Last()
	written, _ := b.m.toCommit(root)
	want := b.m.commit(root)
	if err := b.x.Commit(root); !is(err, want) {
		t.Fatalf("P15.2: Commit: %v, not %d", err, want)
	}
	if got := b.store.Last() - last; want == api.OK && got != uint64(len(written)) {
		t.Fatalf("P15.2: Commit wrote %d nodes, not %d", got, len(written))
	}
	b.agrees(t)
	return want
}

// put: a node is clean, whoever wrote it.
func (b *bench) put(t *testing.T, l ...api.Node) {
	t.Helper()
	for _, n := range l {
		if err := b.store.Write([]api.Op{{Key: rawdb.NodeKey(n.Hash), Value: n.Bytes}}); err != nil {
			t.Fatal(err)
		}
		b.m.clean[n.Hash] = string(n.Bytes)
		b.met[n.Hash] = struct{}{}
	}
}

// take: a node isn't clean any more, whoever deleted it.
func (b *bench) take(t *testing.T, hashes ...api.Hash) {
	t.Helper()
	for _, h := range hashes {
		if err := b.store.Write([]api.Op{{Delete: true, Key: rawdb.NodeKey(h)}}); err != nil {
			t.Fatal(err)
		}
		delete(b.m.clean, h)
	}
}

// agrees: that what the DB and its store tell is what the model does.
func (b *bench) agrees(t *testing.T) {
	t.Helper()
	b.agreesDirty(t)
	for h := range b.met {
		want, there := b.m.get(h)
		if got, ok, err := b.x.Get(h); string(got) != want || ok != there || err != nil {
			t.Fatalf("P15.3: Get: %x, %v, %v, not %x, %v", got, ok, err, want, there)
		}
	}
	if got := sayStore(t, b.store); got != sayClean(b.m.clean) {
		t.Fatalf("P15.2: the store has\n%s, not\n%s", got, sayClean(b.m.clean))
	}
}

func (b *bench) agreesDirty(t *testing.T) {
	t.Helper()
	got := b.x.Dirty()
	if !slices.IsSortedFunc(got, func(p, q api.Hash) int { return bytes.Compare(p[:], q[:]) }) {
		t.Fatalf("P15.3: Dirty doesn't rise: %x", got)
	}
	there := map[api.Hash]struct{}{}
	for _, h := range got {
		if _, ok := b.m.dirty[h]; !ok {
			t.Fatalf("P15.1, P15.2: %x is dirty", h)
		}
		there[h] = struct{}{}
	}
	if len(got) != len(b.m.dirty) || len(there) != len(got) {
		t.Fatalf("P15.1, P15.2: %d are dirty, not %d", len(got), len(b.m.dirty))
	}
}

// drained: that all roots are held as often as the model tells, to the last Drop.
func (b *bench) drained(t *testing.T) {
	t.Helper()
	for h := range b.met {
		for b.drop(t, h) == api.OK {
		}
	}
	if len(b.x.Dirty()) != 0 {
		t.Fatal("P15.2: something is dirty, and no root is held")
	}
}

// sayStore: all that a store has.
func sayStore(t *testing.T, db *lsm.DB) string {
	t.Helper()
	l, err := db.Range(nil, nil, db.Last(), api.MaxBatch)
	if err != nil {
		t.Fatal(err)
	}
	var s strings.Builder
	for _, x := range l {
		fmt.Fprintf(&s, "%x=%x\n", x.Key, x.Value)
	}
	return s.String()
}

// sayClean: likewise of a store that has these nodes.
func sayClean(l map[api.Hash]string) string {
	var lines []string
	for h, b := range l {
		lines = append(lines, fmt.Sprintf("6e%x=%x\n", h, b))
	}
	slices.Sort(lines)
	return strings.Join(lines, "")
}

// hasDirty: that so many are dirty, by the chapter's words told by hand.
func (b *bench) hasDirty(t *testing.T, want int) {
	t.Helper()
	if got := len(b.x.Dirty()); got != want {
		t.Fatalf("P15.1, P15.2: %d are dirty, not %d", got, want)
	}
}
