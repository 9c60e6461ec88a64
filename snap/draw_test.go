package snap_test

import (
	"bytes"
	"fmt"
	"maps"
	"math/rand"
	"slices"
	"strings"
	"testing"

	"moraine/api"
	"moraine/keccak"
	"moraine/trie"
)

// account: what a world that is to be laid has under a key: a record with these slots, or else another value.
type account struct {
	slots map[string]string
	value string
}

// ledger: accounts by keys.
type ledger map[string]account

// drawKey draws a key of 32 bytes of a few that share much, or little.
func drawKey(r *rand.Rand) string {
	b := make([]byte, 32)
	switch r.Intn(4) {
	case 0:
		b[31] = byte(r.Intn(4)) << (4 * r.Intn(2))
	case 1:
		b[0] = byte(r.Intn(4)) << (4 * r.Intn(2))
	case 2:
		b[15], b[31] = byte(r.Intn(3)), byte(r.Intn(3))
	default:
		h := keccak.Sum([]byte{byte(r.Intn(12))})
		copy(b, h[:])
	}
	return string(b)
}

// drawAnyKey draws a key that may have another length.
func drawAnyKey(r *rand.Rand) string {
	switch key := drawKey(r); r.Intn(12) {
	case 0:
		return key[:r.Intn(32)]
	case 1:
		return key + strings.Repeat("\x00", 1+r.Intn(2))
	case 2:
		return key + drawKey(r)
	default:
		return key
	}
}

func drawSlots(r *rand.Rand) map[string]string {
	slots := map[string]string{}
	for range r.Intn(5) * r.Intn(3) {
		slots[drawAnyKey(r)] = drawValue(r)
	}
	return slots
}

func drawValue(r *rand.Rand) string {
	return strings.Repeat(string(rune('a'+r.Intn(4))), []int{1, 2, 33}[r.Intn(3)])
}

// drawAccount draws an account; some values are only nearly records.
func drawAccount(r *rand.Rand) account {
	h := hashed(api.Hash{byte(r.Intn(3))})
	switch r.Intn(13) {
	case 7:
		return account{value: encoded(text([]byte(strings.Join([]string{encoded(text(nil)), encoded(text(nil)), encoded(h), encoded(text(nil))}, ""))))}
	case 0:
		return account{value: drawValue(r)}
	case 1:
		return account{value: encoded(list(text(nil), text(nil), h))}
	case 2:
		return account{value: encoded(list(text(nil), text(nil), h, text(nil), text(nil)))}
	case 3:
		return account{value: encoded(list(text(nil), list(), h, text(nil)))}
	case 4:
		return account{value: encoded(list(text(nil), text(nil), sized([]int{0, 31, 33}[r.Intn(3)]), text(nil)))}
	case 5:
		return account{value: encoded(list(text(nil), text(nil), h, text(nil))) + "\x00"}
	case 6:
		return account{value: encoded(text([]byte(encoded(list(text(nil), text(nil), h, text(nil))))))}
	default:
		return account{slots: drawSlots(r)}
	}
}

func drawLedger(r *rand.Rand) ledger {
	l := ledger{}
	for range r.Intn(14) {
		l[drawAnyKey(r)] = drawAccount(r)
	}
	return l
}

// changed: a ledger that is otherwise here and there.
func (l ledger) changed(r *rand.Rand) ledger {
	l = maps.Clone(l)
	keys := slices.Sorted(maps.Keys(l))
	for range 1 + r.Intn(5) {
		switch {
		case r.Intn(3) == 0 || len(keys) == 0:
			l[drawAnyKey(r)] = drawAccount(r)
		case r.Intn(3) == 0:
			delete(l, keys[r.Intn(len(keys))])
		default:
			key := keys[r.Intn(len(keys))]
			slots := maps.Clone(l[key].slots)
			if slots == nil {
				slots = map[string]string{}
			}
			for range 1 + r.Intn(3) {
				slots[drawAnyKey(r)] = drawValue(r)
			}
			maps.DeleteFunc(slots, func(string, string) bool { return r.Intn(4) == 0 })
			l[key] = account{slots: slots}
		}
	}
	return l
}

// lay tells the root of a ledger, and its nodes.
func (l ledger) lay() (api.Hash, []api.Node) {
	accounts := trie.New(trie.Empty(), nil)
	var nodes []api.Node
	for i, key := range slices.Sorted(maps.Keys(l)) {
		value := l[key].value
		if value == "" {
			root, below := laid(l[key].slots)
			nodes, value = append(nodes, below...), record(i%3, root)
		}
		if e := accounts.Put([]byte(key), []byte(value)); e != api.OK {
			panic(e)
		}
	}
	return accounts.Root(), append(nodes, accounts.Nodes()...)
}

// laid: the root and the nodes of a map's trie.
func laid(m map[string]string) (api.Hash, []api.Node) {
	x := trie.New(trie.Empty(), nil)
	for _, key := range slices.Sorted(maps.Keys(m)) {
		if e := x.Put([]byte(key), []byte(m[key])); e != api.OK {
			panic(e)
		}
	}
	return x.Root(), x.Nodes()
}

// lay puts a ledger's nodes to the store, and its keys to those that are read.
func (b *bench) lay(t *testing.T, l ledger) api.Hash {
	t.Helper()
	root, nodes := l.lay()
	b.put(t, nodes...)
	b.seek(slices.Collect(maps.Keys(b.have.flat(root)))...)
	return root
}

// seek puts keys, and some beside them, to those that are read.
func (b *bench) seek(keys ...string) {
	for _, key := range keys {
		b.keys = append(b.keys, key)
		if len(key) == 32 {
			b.keys = append(b.keys, key+strings.Repeat("\x00", 32), key+strings.Repeat("\xFF", 32))
		}
	}
	slices.Sort(b.keys)
	b.keys = slices.Compact(b.keys)
}

// changes: from one flat world to another one.
func changes(from, to map[string]string) []api.KV {
	var l []api.KV
	for _, key := range slices.Sorted(maps.Keys(from)) {
		if _, ok := to[key]; !ok {
			l = append(l, api.KV{Key: []byte(key)})
		}
	}
	for _, key := range slices.Sorted(maps.Keys(to)) {
		if from[key] != to[key] {
			l = append(l, api.KV{Key: []byte(key), Value: []byte(to[key])})
		}
	}
	return l
}

// drawChanges draws changes that lead to no world; some keys change twice.
func (b *bench) drawChanges(r *rand.Rand) []api.KV {
	var l []api.KV
	for range r.Intn(8) {
		key := drawKey(r)
		if r.Intn(2) == 0 {
			key += drawKey(r)
		}
		value := drawValue(r)
		if r.Intn(3) == 0 {
			value = ""
		}
		l = append(l, api.KV{Key: []byte(key), Value: []byte(value)})
		b.seek(key)
	}
	return l
}

// knowsTruly: P17.6: where a tree knows a root's key, it tells its flat world's value. How many keys it knows of those that are read.
func (b *bench) knowsTruly(t *testing.T, root api.Hash, flat map[string]string) int {
	t.Helper()
	known := 0
	for _, key := range b.keys {
		value, ok := flat[key]
		switch got := told(b.x, root, key); {
		case len(key) != 32 && len(key) != 64, got == "unknown":
		case got == fmt.Sprintf("%q %v known", value, ok):
			known++
		default:
			t.Fatalf("P17.6: %x at %x: %s, not %q, %v", key, root[:4], got, value, ok)
		}
	}
	return known
}

// tended: what may be done to the store at any time.
func (b *bench) tended(t *testing.T, r *rand.Rand) {
	t.Helper()
	var err error
	switch r.Intn(8) {
	case 0:
		err = b.store.Flush()
	case 1:
		_, err = b.store.Settle(r.Intn(4))
	case 2:
		_, err = b.store.Compact(r.Intn(3))
	}
	if err != nil {
		t.Fatal(err)
	}
}

const crashKinds = 6

// crash: by kinds, nothing that was pending survives, all of it, all bytes, all names, some of it.
func crash(r *rand.Rand, kind int) api.Crash {
	all := api.Crash{Names: 1 << 20, Bytes: slices.Repeat([]int{1 << 26}, 400)}
	switch kind {
	case 0:
		return api.Crash{}
	case 1:
		return all
	case 2:
		return api.Crash{Bytes: all.Bytes}
	case 3:
		return api.Crash{Names: all.Names}
	}
	c := api.Crash{Names: r.Intn(6)}
	most := []int{20, 200, 2000}[r.Intn(3)]
	for range 400 {
		c.Bytes = append(c.Bytes, r.Intn(most))
	}
	return c
}

// flatOrder: whether keys rise byte by byte.
func flatOrder(keys []string) bool {
	return slices.IsSortedFunc(keys, func(a, b string) int { return bytes.Compare([]byte(a), []byte(b)) })
}
