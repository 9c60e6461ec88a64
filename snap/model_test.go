package snap_test

import (
	"bytes"
	"errors"
	"fmt"
	"maps"
	"math/bits"
	"math/rand"
	"slices"
	"strings"
	"testing"

	"moraine/api"
	"moraine/disk"
	"moraine/keccak"
	"moraine/lsm"
	"moraine/rawdb"
	"moraine/rlp"
	"moraine/snap"
	"moraine/trie"
	"moraine/triedb"
)

// seeded runs a test by several seeds, side by side.
func seeded(t *testing.T, count int, test func(t *testing.T, r *rand.Rand)) {
	for seed := range count {
		t.Run(fmt.Sprint(seed), func(t *testing.T) {
			t.Parallel()
			test(t, rand.New(rand.NewSource(int64(seed))))
		})
	}
}

// options: small sizes, so that there is much to flush and to merge.
func options() api.Options {
	return api.Options{
		Plan:    api.Plan{Block: 256, Restart: 4, Bits: 10, Table: 500},
		Sizes:   api.Sizes{Tables0: 2, Bytes1: 1500, Factor: 2},
		Heights: []int{1, 2, 1, 3},
	}
}

// greatOptions: for stores with much in them.
func greatOptions() api.Options {
	o := options()
	o.Plan, o.Heights = api.Plan{Block: 4096, Restart: 16, Bits: 10, Table: 1 << 20}, nil
	for i := range 64 { // as many as halving gives, so that the store finds its way soon
		o.Heights = append(o.Heights, 1+bits.TrailingZeros(uint(i+1)))
	}
	return o
}

// is: whether an error is that number, wrapped as chapter 11 says: faults, one in the other, and the number at their end.
func is(err error, want api.Errno) bool {
	if want == api.OK {
		return err == nil
	}
	var f *api.Fault
	var n api.Errno
	if !errors.As(err, &f) || error(f) != err || !errors.Is(err, want) || !errors.As(err, &n) || n != want || api.Of(err) != want {
		return false
	}
	for {
		in, ok := err.(*api.Fault)
		if !ok {
			return err == error(want)
		}
		err = in.Err
	}
}

func text(b []byte) api.Item { return api.Item{Bytes: b} }

func list(l ...api.Item) api.Item { return api.Item{List: true, Items: l} }

// sized: a string of so many bytes.
func sized(n int) api.Item { return text(bytes.Repeat([]byte{0xAB}, n)) }

func hashed(h api.Hash) api.Item { return text(h[:]) }

func packed(path string, isLeaf bool) api.Item {
	b, e := trie.Pack([]byte(path), isLeaf)
	if e != api.OK {
		panic(e)
	}
	return text(b)
}

func leaf(path, value string) api.Item { return list(packed(path, true), text([]byte(value))) }

func way(path string, ref api.Item) api.Item { return list(packed(path, false), ref) }

// fork: a list of 17 with these at their places, and a value at 16.
func fork(parts map[int]api.Item) api.Item {
	x := list(make([]api.Item, 17)...)
	for i, y := range parts {
		x.Items[i] = y
	}
	return x
}

func encoded(x api.Item) string {
	b, e := rlp.Encode(x)
	if e != api.OK {
		panic(e)
	}
	return string(b)
}

// nodeOf: the node that an item is.
func nodeOf(x api.Item) api.Node {
	b := []byte(encoded(x))
	return api.Node{Hash: keccak.Sum(b), Bytes: b}
}

// record: the value of an account with that storage; no two numbers have one.
func record(number int, storage api.Hash) string {
	return encoded(list(text([]byte{byte(number >> 8), byte(number)}), text([]byte("balance")), hashed(storage), sized(32)))
}

// event: an entry of a flat world, or what is wrong with a node that would tell some.
type event struct {
	key, value string
	last       string // the last flat key that hangs on it
	wrong      api.Errno
}

// nodeSet: bytes by hashes.
type nodeSet map[api.Hash]string

// keyOf: the bytes of 64 nibbles.
func keyOf(path string) string {
	var b []byte
	for i := 0; i < len(path); i += 2 {
		b = append(b, path[i]<<4|path[i+1])
	}
	return string(b)
}

// entries: the events of a trie's part at a path, rising: by the words of layer 14 what it has, as far as keys have 32 bytes.
func (s nodeSet) entries(path string, ref api.Item) []event {
	if len(path) > 64 || !ref.List && len(ref.Bytes) == 0 {
		return nil
	}
	if !ref.List {
		last := keyOf(path + strings.Repeat("\x0F", 64-len(path)))
		code, ok := s[api.Hash(ref.Bytes)]
		if !ok {
			return []event{{last: last, wrong: api.ErrTrieNode}}
		}
		if trie.Check([]byte(code)) != api.OK {
			return []event{{last: last, wrong: api.ErrTrieForm}}
		}
		ref, _ = rlp.Decode([]byte(code))
	}
	var l []event
	value := func(path string, b []byte) {
		if len(path) == 64 && len(b) > 0 {
			l = append(l, event{keyOf(path), string(b), keyOf(path), api.OK})
		}
	}
	if len(ref.Items) == 17 {
		value(path, ref.Items[16].Bytes)
		for i, below := range ref.Items[:16] {
			l = append(l, s.entries(path+string(rune(i)), below)...)
		}
		return l
	}
	further, isLeaf, _ := trie.Unpack(ref.Items[0].Bytes)
	path += string(further)
	if isLeaf {
		value(path, ref.Items[1].Bytes)
		return l
	}
	return s.entries(path, ref.Items[1])
}

func (s nodeSet) trieOf(root api.Hash) []event {
	if root == trie.Empty() {
		return nil
	}
	return s.entries("", hashed(root))
}

// storageOf: the storage that a value names.
func storageOf(value string) (api.Hash, bool) {
	x, e := rlp.Decode([]byte(value))
	if e != api.OK || !x.List || len(x.Items) != 4 || len(x.Items[2].Bytes) != 32 {
		return api.Hash{}, false
	}
	if slices.ContainsFunc(x.Items, func(y api.Item) bool { return y.List }) {
		return api.Hash{}, false
	}
	return api.Hash(x.Items[2].Bytes), true
}

// world: the events of a root's flat world, rising.
func (s nodeSet) world(root api.Hash) []event {
	var l []event
	for _, account := range s.trieOf(root) {
		if account.wrong != api.OK {
			account.last += strings.Repeat("\xFF", 32) // the slots of its accounts hang on it, too
		}
		l = append(l, account)
		storage, ok := storageOf(account.value)
		if account.wrong != api.OK || !ok {
			continue
		}
		for _, slot := range s.trieOf(storage) {
			slot.last = account.key + slot.last
			if slot.wrong == api.OK {
				slot.key = account.key + slot.key
			}
			l = append(l, slot)
		}
	}
	return l
}

// flat: the flat world of a root.
func (s nodeSet) flat(root api.Hash) map[string]string {
	m := map[string]string{}
	for _, e := range s.world(root) {
		if e.wrong == api.OK {
			m[e.key] = e.value
		}
	}
	return m
}

// kept: a disk layer, and the difference layers that an Open tells with it.
type kept struct {
	root    api.Hash
	records map[string]string // of those that are known
	from    string            // the next entry's key, as it was when generating stopped
	done    bool
	saved   []difference
}

type difference struct {
	root, parent api.Hash
	changes      map[string]string // no byte: it is taken away
}

// model: a tree by the chapter's words.
type model struct {
	kept
	layers []difference // as they were made
}

func newModel() *model { return &model{kept: kept{root: trie.Empty(), done: true}} }

// copied: a model that stays as it is.
func (m *model) copied() *model {
	n := *m
	n.records, n.layers = maps.Clone(m.records), slices.Clone(m.layers)
	return &n
}

// opened: what Open tells.
func (m *model) opened() *model {
	n := m.copied()
	n.layers = slices.Clone(m.saved)
	return n
}

func (m *model) roots() []api.Hash {
	l := []api.Hash{m.root}
	for _, x := range m.layers {
		l = append(l, x.root)
	}
	return l
}

func (m *model) reset(root api.Hash) { *m = model{kept: kept{root: root}} }

func (m *model) knows(key string) bool { return m.done || key < m.from }

func (m *model) generate(s nodeSet, n int) api.Errno {
	if n < 1 || m.done {
		return api.OK
	}
	due := slices.DeleteFunc(s.world(m.root), func(e event) bool { return e.last < m.from })
	records := map[string]string{}
	from, done := "", true
	for i, e := range due {
		if e.wrong != api.OK {
			return e.wrong
		}
		if i == n {
			from, done = e.key, false
			break
		}
		records[e.key] = e.value
	}
	all := maps.Clone(m.records)
	if all == nil {
		all = map[string]string{}
	}
	maps.Copy(all, records)
	m.records, m.from, m.done = all, from, done
	return api.OK
}

func (m *model) update(parent, root api.Hash, changes []api.KV) api.Errno {
	roots := m.roots()
	switch {
	case !slices.Contains(roots, parent):
		return api.ErrSnapRoot
	case slices.Contains(roots, root):
		return api.ErrSnapTwice
	}
	x := difference{root, parent, map[string]string{}}
	for _, c := range changes {
		if len(c.Key) != 32 && len(c.Key) != 64 {
			return api.ErrRawForm
		}
		x.changes[string(c.Key)] = string(c.Value)
	}
	m.layers = append(m.layers, x)
	return api.OK
}

// row: the difference layers from root down.
func (m *model) row(root api.Hash) []difference {
	var l []difference
	for root != m.root {
		i := slices.IndexFunc(m.layers, func(x difference) bool { return x.root == root })
		l = append(l, m.layers[i])
		root = m.layers[i].parent
	}
	return l
}

// answer: what Read tells, in one line.
func (m *model) answer(root api.Hash, key string) string {
	switch {
	case !slices.Contains(m.roots(), root):
		return fmt.Sprint(api.ErrSnapRoot)
	case len(key) != 32 && len(key) != 64:
		return fmt.Sprint(api.ErrRawForm)
	}
	for _, x := range m.row(root) {
		if value, ok := x.changes[key]; ok {
			return fmt.Sprintf("%q %v known", value, value != "")
		}
	}
	if !m.knows(key) {
		return "unknown"
	}
	value, ok := m.records[key]
	return fmt.Sprintf("%q %v known", value, ok)
}

func (m *model) flatten(root api.Hash, layers int) api.Errno {
	if !slices.Contains(m.roots(), root) {
		return api.ErrSnapRoot
	}
	row := m.row(root)
	row = row[min(len(row), max(layers, 0)):]
	if len(row) == 0 {
		return api.OK
	}
	records := maps.Clone(m.records)
	if records == nil {
		records = map[string]string{}
	}
	for _, x := range slices.Backward(row) {
		for key, value := range x.changes {
			if !m.knows(key) {
				continue
			}
			if records[key] = value; value == "" {
				delete(records, key)
			}
		}
	}
	m.records, m.root, m.saved = records, row[0].root, nil
	m.layers = slices.DeleteFunc(slices.Clone(m.layers), func(x difference) bool { return !m.stands(x) })
	return api.OK
}

// stands: whether a layer stands above the disk layer.
func (m *model) stands(x difference) bool {
	for x.root != m.root {
		if x.parent == m.root {
			return true
		}
		i := slices.IndexFunc(m.layers, func(y difference) bool { return y.root == x.parent })
		if i < 0 {
			return false
		}
		x = m.layers[i]
	}
	return false
}

func (m *model) save() { m.saved = slices.Clone(m.layers) }

// told: what Read answers, in one line.
func told(x *snap.Tree, root api.Hash, key string) string {
	value, ok, known, err := x.Read(root, []byte(key))
	switch {
	case err != nil && (len(value) > 0 || ok || known || !is(err, api.Of(err))):
		return fmt.Sprintf("%q %v %v beside %v", value, ok, known, err)
	case err != nil:
		return fmt.Sprint(api.Of(err))
	case known:
		return fmt.Sprintf("%q %v known", value, ok)
	case ok || len(value) > 0:
		return fmt.Sprintf("%q %v, but not known", value, ok)
	}
	return "unknown"
}

// differs: where a tree tells something else than a model.
func differs(x *snap.Tree, m *model, keys []string) string {
	if got, want := fmt.Sprintf("%x", x.Roots()), fmt.Sprintf("%x", m.roots()); got != want {
		return "Roots: " + got + ", not " + want
	}
	if x.Done() != m.done {
		return fmt.Sprintf("Done: %v", x.Done())
	}
	for _, root := range append(m.roots(), api.Hash{0xEE}) {
		for _, key := range keys {
			if got, want := told(x, root, key), m.answer(root, key); got != want {
				return fmt.Sprintf("Read of %x at %x: %s, not %s", key, root[:4], got, want)
			}
		}
	}
	return ""
}

// bench: a tree, the nodes below it, and its model.
type bench struct {
	d     *disk.Disk
	o     api.Options
	store *lsm.DB
	nodes *triedb.DB
	x     *snap.Tree
	m     *model
	have  nodeSet  // what nodes tells
	keys  []string // that are read
}

func newBench(t *testing.T, o api.Options) *bench {
	t.Helper()
	return benchOn(t, o, 1<<26)
}

func benchOn(t *testing.T, o api.Options, capacity int) *bench {
	t.Helper()
	d, e := disk.New(capacity)
	if e != api.OK {
		t.Fatal(e)
	}
	b := &bench{d: d, o: o, m: newModel(), have: nodeSet{}}
	b.open(t)
	b.keys = []string{"", "short", strings.Repeat("k", 31), strings.Repeat("k", 32), strings.Repeat("k", 33), strings.Repeat("k", 63), strings.Repeat("k", 64), strings.Repeat("k", 65), strings.Repeat("\x00", 32), strings.Repeat("\xFF", 64)}
	return b
}

// open opens the store and the tree anew.
func (b *bench) open(t *testing.T) {
	t.Helper()
	var err error
	if b.store, err = lsm.Open(b.d, b.o); err != nil {
		t.Fatal(err)
	}
	b.nodes = triedb.New(b.store)
	if b.x, err = snap.Open(b.store); err != nil {
		t.Fatalf("P17.1: %v", err)
	}
}

// put puts nodes to the store.
func (b *bench) put(t *testing.T, l ...api.Node) {
	t.Helper()
	var batch []api.Op
	for _, n := range l {
		batch = append(batch, api.Op{Key: rawdb.NodeKey(n.Hash), Value: n.Bytes})
		b.have[n.Hash] = string(n.Bytes)
	}
	if err := b.store.Write(batch); err != nil {
		t.Fatal(err)
	}
}

// lose takes a node away.
func (b *bench) lose(t *testing.T, h api.Hash) {
	t.Helper()
	if err := b.store.Write([]api.Op{{Delete: true, Key: rawdb.NodeKey(h)}}); err != nil {
		t.Fatal(err)
	}
	delete(b.have, h)
}

// agrees: that the tree tells what its model does.
func (b *bench) agrees(t *testing.T) {
	t.Helper()
	if wrong := differs(b.x, b.m, b.keys); wrong != "" {
		t.Fatalf("P17.1 to P17.5: %s", wrong)
	}
}

func (b *bench) reset(t *testing.T, root api.Hash) {
	t.Helper()
	if err := b.x.Reset(root); err != nil {
		t.Fatalf("P17.2: %v", err)
	}
	b.m.reset(root)
}

func (b *bench) generate(t *testing.T, n int) {
	t.Helper()
	want := b.m.generate(b.have, n)
	if done, err := b.x.Generate(b.nodes, n); !is(err, want) || done != (b.m.done && err == nil) {
		t.Fatalf("P17.2: Generate of %d: %v, %v, not %v, %v", n, done, err, b.m.done, want)
	}
}

func (b *bench) update(t *testing.T, parent, root api.Hash, changes []api.KV) {
	t.Helper()
	want := b.m.update(parent, root, changes)
	if err := b.x.Update(parent, root, changes); !is(err, want) {
		t.Fatalf("P17.3: %v, not %v", err, want)
	}
}

func (b *bench) flatten(t *testing.T, root api.Hash, layers int) {
	t.Helper()
	want := b.m.flatten(root, layers)
	if err := b.x.Flatten(root, layers); !is(err, want) {
		t.Fatalf("P17.5: %v, not %v", err, want)
	}
}

func (b *bench) save(t *testing.T) {
	t.Helper()
	if err := b.x.Save(); err != nil {
		t.Fatalf("P17.5: %v", err)
	}
	b.m.save()
}

// reopen opens all anew: the tree is as it was saved.
func (b *bench) reopen(t *testing.T) {
	t.Helper()
	b.open(t)
	b.m = b.m.opened()
}

// recordsIn: the flat records of a store, by flat keys.
func recordsIn(t *testing.T, db *lsm.DB) map[string]string {
	t.Helper()
	m := map[string]string{}
	for least, more := []byte(nil), true; more; {
		page, err := db.Range(least, nil, db.Last(), 4096)
		if err != nil {
			t.Fatal(err)
		}
		for _, x := range page {
			if k, e := rawdb.Parse(x.Key); e == api.OK && (k.Letter == 'a' || k.Letter == 'o') {
				m[string(x.Key[1:])] = string(x.Value)
			}
			least = append(x.Key, 0)
		}
		more = len(page) == 4096
	}
	return m
}

// recorded: that the store has just the records that are known.
func (b *bench) recorded(t *testing.T) {
	t.Helper()
	got := recordsIn(t, b.store)
	if !maps.Equal(got, b.m.records) && len(got)+len(b.m.records) > 0 {
		t.Fatalf("P17.1: %d records stand in the store, not %d", len(got), len(b.m.records))
	}
}

// tidy: that the store has no marker but the one of the state, and of the layers that were saved, where these are few.
func (b *bench) tidy(t *testing.T) {
	t.Helper()
	l, err := b.store.Range([]byte("m"), []byte("n"), b.store.Last(), 1000)
	if want := 1 + min(len(b.m.saved), 1); err != nil || len(l) != want {
		t.Fatalf("%d markers stand in the store, not %d, %v", len(l), want, err)
	}
}
