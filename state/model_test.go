package state_test

import (
	"bytes"
	"errors"
	"fmt"
	"maps"
	"math/big"
	"math/rand"
	"slices"
	"strings"
	"testing"

	"moraine/api"
	"moraine/disk"
	"moraine/keccak"
	"moraine/lsm"
	"moraine/rawdb"
	"moraine/rlp"
	"moraine/state"
	"moraine/trie"
	"moraine/triedb"
)

// seeded runs a test by several seeds, side by side.
func seeded(t *testing.T, count int, test func(t *testing.T, r *rand.Rand)) {
	for seed := range count {
		t.Run(fmt.Sprint(seed), func(t *testing.T) {
			t.Parallel()
			test(t, rand.New(rand.NewSource(int64(seed))))
		})
	}
}

// options: small sizes, so that there is much to flush and to merge.
func options() api.Options {
	return api.Options{
		Plan:    api.Plan{Block: 256, Restart: 4, Bits: 10, Table: 500},
		Sizes:   api.Sizes{Tables0: 2, Bytes1: 1500, Factor: 2},
		Heights: []int{1, 2, 1, 3},
	}
}

// is: whether an error is that number, wrapped as chapter 11 says: faults, one in the other, and the number at their end.
func is(err error, want api.Errno) bool {
	if want == api.OK {
		return err == nil
	}
	var f *api.Fault
	var n api.Errno
	if !errors.As(err, &f) || error(f) != err || !errors.Is(err, want) || !errors.As(err, &n) || n != want || api.Of(err) != want {
		return false
	}
	for {
		in, ok := err.(*api.Fault)
		if !ok {
			return err == error(want)
		}
		err = in.Err
	}
}

func text(b []byte) api.Item { return api.Item{Bytes: b} }

func list(l ...api.Item) api.Item { return api.Item{List: true, Items: l} }

func hashed(h api.Hash) api.Item { return text(h[:]) }

func packed(path string, isLeaf bool) api.Item {
	b, e := trie.Pack([]byte(path), isLeaf)
	if e != api.OK {
		panic(e)
	}
	return text(b)
}

func leaf(path, value string) api.Item { return list(packed(path, true), text([]byte(value))) }

func way(path string, ref api.Item) api.Item { return list(packed(path, false), ref) }

// fork: a list of 17 with these at their places, and a value at 16.
func fork(parts map[int]api.Item) api.Item {
	x := list(make([]api.Item, 17)...)
	for i, y := range parts {
		x.Items[i] = y
	}
	return x
}

func encoded(x api.Item) string {
	b, e := rlp.Encode(x)
	if e != api.OK {
		panic(e)
	}
	return string(b)
}

// nodeOf: the node that an item is.
func nodeOf(x api.Item) api.Node {
	b := []byte(encoded(x))
	return api.Node{Hash: keccak.Sum(b), Bytes: b}
}

// account: by the chapter's words.
type account struct {
	nonce   uint64
	balance *big.Int
	code    string
	slots   map[api.Word]api.Word
}

// ledger: a world.
type ledger map[api.Addr]account

func (l ledger) at(a api.Addr) account {
	x, ok := l[a]
	if !ok {
		x = account{balance: new(big.Int)}
	}
	x.slots = maps.Clone(x.slots)
	if x.slots == nil {
		x.slots = map[api.Word]api.Word{}
	}
	return x
}

func (x account) isNone() bool { return x.nonce == 0 && x.balance.Sign() == 0 && x.code == "" }

// settled: a world without those accounts that are none, and were met.
func (l ledger) settled(met map[api.Addr]struct{}) ledger {
	m := maps.Clone(l)
	maps.DeleteFunc(m, func(a api.Addr, x account) bool {
		_, ok := met[a]
		return ok && x.isNone()
	})
	return m
}

// number: the bytes of a number, the highest first, none of them 0 ahead.
func number(n *big.Int) api.Item { return text(n.Bytes()) }

func wordOf(n *big.Int) api.Word {
	var w api.Word
	n.FillBytes(w[:])
	return w
}

func numberOf(w api.Word) *big.Int { return new(big.Int).SetBytes(w[:]) }

// laid: the trie of a map.
func laid(m map[string]string) (api.Hash, []api.Node) {
	x := trie.New(trie.Empty(), nil)
	for k, v := range m {
		if e := x.Put([]byte(k), []byte(v)); e != api.OK {
			panic(e)
		}
	}
	return x.Root(), x.Nodes()
}

// storage: what the trie of an account's storage has.
func (x account) storage() map[string]string {
	m := map[string]string{}
	for k, v := range x.slots {
		m[string(trie.Secure(k[:]))] = encoded(number(numberOf(v)))
	}
	return m
}

func (x account) storageRoot() api.Hash {
	root, _ := laid(x.storage())
	return root
}

// record: of an account, by the chapter's words.
func record(nonce uint64, balance *big.Int, root, code api.Hash) string {
	return encoded(list(number(new(big.Int).SetUint64(nonce)), number(balance), hashed(root), hashed(code)))
}

func (x account) record() string {
	return record(x.nonce, x.balance, x.storageRoot(), keccak.Sum([]byte(x.code)))
}

// trie: a world's root, and all nodes of it and of its accounts' storages; accounts that are none are in it, too.
func (l ledger) trie() (api.Hash, []api.Node) {
	var nodes []api.Node
	m := map[string]string{}
	for a, x := range l {
		_, below := laid(x.storage())
		nodes = append(nodes, below...)
		m[string(trie.Secure(a[:]))] = x.record()
	}
	root, above := laid(m)
	return root, append(nodes, above...)
}

// flat: the flat world of a settled one.
func (l ledger) flat() map[string]string {
	m := map[string]string{}
	for a, x := range l {
		key := string(trie.Secure(a[:]))
		m[key] = x.record()
		for k, v := range x.storage() {
			m[key+k] = v
		}
	}
	return m
}

// changes: what leads from one flat world to another one, in order.
func changes(from, to map[string]string) []api.KV {
	all := maps.Clone(from)
	maps.Copy(all, to)
	var l []api.KV
	for _, k := range slices.Sorted(maps.Keys(all)) {
		if from[k] != to[k] {
			l = append(l, api.KV{Key: []byte(k), Value: []byte(to[k])})
		}
	}
	return l
}

// alike: whether two lists of changes are the same.
func alike(a, b []api.KV) bool {
	return slices.EqualFunc(a, b, func(x, y api.KV) bool { return bytes.Equal(x.Key, y.Key) && bytes.Equal(x.Value, y.Value) })
}

// model: a state by the chapter's words.
type model struct {
	base, now ledger
	then      ledger // the world as it was opened, when a root was told last, or when it was committed
	marks     map[int]ledger
	next      int
	met       map[api.Addr]struct{} // by calls that answered no error
}

func newModel(l ledger) *model {
	return &model{base: l, now: maps.Clone(l), then: l, marks: map[int]ledger{}, met: map[api.Addr]struct{}{}}
}

// put: an account as a call leaves it.
func (m *model) put(a api.Addr, x account) api.Errno {
	m.now[a] = x
	m.met[a] = struct{}{}
	return api.OK
}

func (m *model) account(a api.Addr) (api.Account, bool) {
	x := m.now.at(a)
	if x.isNone() && len(x.slots) == 0 {
		return api.Account{}, false
	}
	return api.Account{Nonce: x.nonce, Balance: wordOf(x.balance), Root: m.then.at(a).storageRoot(), Code: keccak.Sum([]byte(x.code))}, !x.isNone()
}

// deal: a balance that is greater, or smaller.
func (m *model) deal(a api.Addr, n api.Word, sign int) api.Errno {
	x := m.now.at(a)
	amount := numberOf(n)
	if sign < 0 {
		amount.Neg(amount)
	}
	x.balance = new(big.Int).Add(x.balance, amount)
	switch {
	case x.balance.Sign() < 0:
		return api.ErrStateUnder
	case x.balance.BitLen() > 256:
		return api.ErrStateOver
	}
	return m.put(a, x)
}

func (m *model) setNonce(a api.Addr, n uint64) api.Errno {
	x := m.now.at(a)
	if x.nonce = n; n+1 == 0 {
		return api.ErrStateOver
	}
	return m.put(a, x)
}

func (m *model) setCode(a api.Addr, code string) api.Errno {
	x := m.now.at(a)
	if x.code = code; len(code) > 4096 {
		return api.ErrStateCode
	}
	return m.put(a, x)
}

func (m *model) setSlot(a api.Addr, k, v api.Word) {
	x := m.now.at(a)
	if x.slots[k] = v; v == (api.Word{}) {
		delete(x.slots, k)
	}
	m.put(a, x)
}

func (m *model) destroy(a api.Addr) { m.put(a, account{balance: new(big.Int)}) }

func (m *model) mark() int {
	m.marks[m.next] = maps.Clone(m.now)
	m.next++
	return m.next - 1
}

func (m *model) revert(mark int) api.Errno {
	l, ok := m.marks[mark]
	if !ok {
		return api.ErrStateRevert
	}
	m.now = l
	maps.DeleteFunc(m.marks, func(n int, _ ledger) bool { return n >= mark })
	return api.OK
}

func (m *model) root() api.Hash {
	m.now = m.now.settled(m.met)
	m.then = maps.Clone(m.now)
	root, _ := m.now.trie()
	return root
}

func (m *model) commit() (api.Hash, []api.KV) {
	root := m.root()
	flat := changes(m.base.flat(), m.now.flat())
	*m = *newModel(m.now)
	return root, flat
}

// bench: a state, what it stands on, and its model.
type bench struct {
	d      *disk.Disk
	store  *lsm.DB
	nodes  *triedb.DB
	x      *state.State
	m      *model
	worlds map[api.Hash]ledger // that were committed
	held   map[api.Hash]int
	codes  map[string]struct{} // that the store has
	addrs  []api.Addr
	words  []api.Word
}

func addr(n int) api.Addr { return api.Addr{byte(n), 19: byte(n >> 8)} }

func word(n int) api.Word { return api.Word{30: byte(n >> 8), 31: byte(n)} }

func newBench(t *testing.T) *bench {
	t.Helper()
	d, e := disk.New(1 << 22)
	if e != api.OK {
		t.Fatal(e)
	}
	b := &bench{d: d, worlds: map[api.Hash]ledger{trie.Empty(): {}}, codes: map[string]struct{}{}}
	for i := range 5 {
		b.addrs, b.words = append(b.addrs, addr(i)), append(b.words, word(i))
	}
	b.start(t)
	b.open(trie.Empty())
	return b
}

// start: anew, of what is on the disk.
func (b *bench) start(t *testing.T) {
	t.Helper()
	var err error
	if b.store, err = lsm.Open(b.d, options()); err != nil {
		t.Fatal(err)
	}
	b.nodes, b.held = triedb.New(b.store), map[api.Hash]int{}
}

// open: a state of a root that was committed.
func (b *bench) open(root api.Hash) {
	b.x, b.m = state.Open(root, b.nodes, b.store), newModel(b.worlds[root])
}

// agrees: that all that can be read is the model's.
func (b *bench) agrees(t *testing.T) {
	t.Helper()
	for _, a := range b.addrs {
		if got := differs(b.x, b.m, a, b.words); got != "" {
			t.Fatal(got)
		}
	}
}

// differs: what of an account isn't the model's, which is met by that.
func differs(x *state.State, m *model, a api.Addr, words []api.Word) string {
	m.met[a] = struct{}{}
	want := m.now.at(a)
	record, there := m.account(a)
	if got, ok, err := x.Account(a); got != record || ok != there || err != nil {
		return fmt.Sprintf("P18.2: Account(%x): %v, %v, %v, not %v, %v", a, got, ok, err, record, there)
	}
	if got, err := x.Code(a); string(got) != want.code || err != nil {
		return fmt.Sprintf("P18.2: Code(%x): %.99q, %v, not %.99q", a, got, err, want.code)
	}
	for _, k := range words {
		if got, err := x.Slot(a, k); got != want.slots[k] || err != nil {
			return fmt.Sprintf("P18.2: Slot(%x, %x): %x, %v, not %x", a, k, got, err, want.slots[k])
		}
	}
	return ""
}

func (b *bench) did(t *testing.T, what string, err error, want api.Errno) {
	t.Helper()
	if !is(err, want) {
		t.Fatalf("%s: %v, not %d", what, err, want)
	}
}

func (b *bench) add(t *testing.T, a api.Addr, n api.Word) {
	t.Helper()
	b.did(t, "P18.3: Add", b.x.Add(a, n), b.m.deal(a, n, 1))
}

func (b *bench) sub(t *testing.T, a api.Addr, n api.Word) {
	t.Helper()
	b.did(t, "P18.3: Sub", b.x.Sub(a, n), b.m.deal(a, n, -1))
}

func (b *bench) setNonce(t *testing.T, a api.Addr, n uint64) {
	t.Helper()
	b.did(t, "P18.3: SetNonce", b.x.SetNonce(a, n), b.m.setNonce(a, n))
}

func (b *bench) setCode(t *testing.T, a api.Addr, code string) {
	t.Helper()
	b.did(t, "P18.3: SetCode", b.x.SetCode(a, []byte(code)), b.m.setCode(a, code))
}

func (b *bench) setSlot(t *testing.T, a api.Addr, k, v api.Word) {
	t.Helper()
	b.m.setSlot(a, k, v)
	b.did(t, "P18.3: SetSlot", b.x.SetSlot(a, k, v), api.OK)
}

func (b *bench) destroy(t *testing.T, a api.Addr) {
	t.Helper()
	b.m.destroy(a)
	b.did(t, "P18.3: Destroy", b.x.Destroy(a), api.OK)
}

func (b *bench) mark(t *testing.T) int {
	t.Helper()
	got, want := b.x.Mark(), b.m.mark()
	if got != want {
		t.Fatalf("P18.4: Mark: %d, not %d", got, want)
	}
	return got
}

func (b *bench) revert(t *testing.T, mark int) {
	t.Helper()
	b.did(t, "P18.4: Revert", b.x.Revert(mark), b.m.revert(mark))
}

func (b *bench) root(t *testing.T) api.Hash {
	t.Helper()
	got, err := b.x.Root()
	if want := b.m.root(); got != want || err != nil {
		t.Fatalf("P18.5: Root: %x, %v, not %x", got, err, want)
	}
	return got
}

// commit: that it answers what the model does, that all nodes are there, that codes are written by one batch each.
func (b *bench) commit(t *testing.T) api.Hash {
	t.Helper()
	last := b.store.Last()
	for _, x := range b.m.now {
		if _, ok := b.codes[x.code]; x.code != "" && !ok {
			b.codes[x.code] = struct{}{}
			last++
		}
	}
	root, flat := b.m.commit()
	got, l, err := b.x.Commit()
	if got != root || !alike(l, flat) || err != nil {
		t.Fatalf("P18.5: Commit: %x, %s, %v, not %x, %s", got, say(l), err, root, say(flat))
	}
	if b.store.Last() != last {
		t.Fatalf("P18.5: Commit: %d operations, not %d", b.store.Last(), last)
	}
	b.worlds[root] = b.m.base
	b.held[root]++
	b.isThere(t, root)
	return root
}

func say(l []api.KV) string {
	var s []string
	for _, x := range l {
		s = append(s, fmt.Sprintf("%x: %x", x.Key, x.Value))
	}
	return strings.Join(s, ", ")
}

// isThere: that all nodes and codes of a world can be read.
func (b *bench) isThere(t *testing.T, root api.Hash) {
	t.Helper()
	_, nodes := b.worlds[root].trie()
	for _, n := range nodes {
		if got, ok, err := b.nodes.Get(n.Hash); !bytes.Equal(got, n.Bytes) || !ok || err != nil {
			t.Fatalf("P18.5: a node of %x: %x, %v, %v", root, got, ok, err)
		}
	}
	for _, x := range b.worlds[root] {
		if got, ok, err := b.store.Get(rawdb.CodeKey(keccak.Sum([]byte(x.code)))); x.code != "" && (string(got) != x.code || !ok || err != nil) {
			t.Fatalf("P18.5: a code of %x: %x, %v, %v", root, got, ok, err)
		}
	}
}

// released: that each root is held as often as it was committed, and that nothing is dirty when none is held.
func (b *bench) released(t *testing.T) {
	t.Helper()
	for root, count := range b.held {
		for i := range count + 1 {
			want := api.OK
			if i == count {
				want = api.ErrTriedbRoot
			}
			if err := b.nodes.Drop(root); !is(err, want) {
				t.Fatalf("P18.5: Drop %d of %d: %v", i, count, err)
			}
		}
	}
	if l := b.nodes.Dirty(); len(l) > 0 {
		t.Fatalf("P18.5: %d nodes are dirty under no root", len(l))
	}
	clear(b.held)
}
