package trie_test

import (
	"bytes"
	"fmt"
	"slices"
	"strings"
	"testing"

	"moraine/api"
	"moraine/trie"
)

// scribble changes a list, and its spare room.
func scribble(b []byte) {
	b = b[:cap(b)]
	for i := range b {
		b[i] = '?'
	}
}

// roomy: a list with spare room behind it; the whole of it.
func roomy(s string) ([]byte, []byte) {
	whole := []byte(s + "what stands behind it")
	return whole[:len(s)], whole
}

// untouched: that a list and its room are as they were; they are changed then.
func untouched(t *testing.T, whole []byte, s string) {
	t.Helper()
	if string(whole) != s+"what stands behind it" {
		t.Fatalf("rule 3: %q was changed: %q", s, whole)
	}
	scribble(whole)
}

// TestHandedIn: keys, values, paths and bytes stay as they are, and may be changed behind the call.
func TestHandedIn(t *testing.T) {
	m := wordy("do verb dog puppy doge coin horse stallion d " + strings.Repeat("v", 60))
	x := trie.New(trie.Empty(), nil)
	for k, v := range m {
		key, all := roomy(k)
		value, rest := roomy(v)
		if e := x.Put(key, value); e != api.OK {
			t.Fatal(e)
		}
		untouched(t, all, k)
		untouched(t, rest, v)
		key, all = roomy(k)
		x.Get(key)
		untouched(t, all, k)
		key, all = roomy(k + "more")
		x.Put(key, []byte("gone"))
		untouched(t, all, k+"more")
		key, all = roomy(k + "more")
		x.Delete(key)
		untouched(t, all, k+"more")
		isMap(t, x, map[string]string{k: v})
		key, all = roomy(k)
		x.Delete(key)
		untouched(t, all, k)
	}
	isMap(t, x, nil)
	path, all := roomy("\x01\x02\x03")
	packed, _ := trie.Pack(path, true)
	untouched(t, all, "\x01\x02\x03")
	key, all := roomy("dog")
	nibbles, hashed := trie.Nibbles(key), trie.Secure(key)
	untouched(t, all, "dog")
	if string(packed) != "\x31\x23" || string(nibbles) != "\x06\x04\x06\x0F\x06\x07" || !bytes.Equal(hashed, trie.Secure([]byte("dog"))) {
		t.Errorf("rule 3: %x, %x, %x", packed, nibbles, hashed)
	}
	b, all := roomy("\x20\x12")
	back, _, _ := trie.Unpack(b)
	untouched(t, all, "\x20\x12")
	node := string(encoded(way("\x01", hash(5))))
	code, all := roomy(node)
	trie.Check(code)
	l, _ := trie.Children(code)
	untouched(t, all, node)
	if string(back) != "\x01\x02" || len(l) != 1 || !bytes.Equal(l[0][:], hash(5).Bytes) {
		t.Errorf("rule 3: %x, %x", back, l)
	}
}

// TestListMayBeChanged: the list that a trie was made over, which stays as it is.
func TestListMayBeChanged(t *testing.T) {
	m := map[string]string{}
	for i := range 30 {
		m[fmt.Sprint(i)] = strings.Repeat(fmt.Sprint(i), i)
	}
	delete(m, "0")
	k := reckon(m)
	l := make([]api.Node, 0, len(k.nodes)+5)
	var rooms [][]byte
	for _, n := range k.nodes {
		b, whole := roomy(string(n.Bytes))
		l = append(l, api.Node{Hash: n.Hash, Bytes: b})
		rooms = append(rooms, whole)
	}
	x, other := trie.New(k.root, l), trie.New(k.root, l)
	remove(t, x, "17")
	if !alike(l, k.nodes) {
		t.Fatal("rule 3: the list was changed")
	}
	for i, whole := range rooms {
		untouched(t, whole, string(k.nodes[i].Bytes))
	}
	l = l[:cap(l)]
	for i := range l {
		l[i] = api.Node{}
	}
	tellsAll(t, other, m)
	remove(t, x, "18")
	put(t, x, "new", "x")
	for key := range m {
		if key != "17" && key != "18" {
			tells(t, x, m, key)
		}
	}
	if other.Root() != k.root || len(other.Nodes()) != 0 {
		t.Error("rule 6: two tries touch one another")
	}
}

// TestToldByOneBuffer: a function that tells each node in the same bytes, and changes them whenever it is asked.
func TestToldByOneBuffer(t *testing.T) {
	m := map[string]string{}
	for i := range 40 {
		m[fmt.Sprint(i, "x")] = strings.Repeat(fmt.Sprint(i), 1+i%40)
	}
	k := reckon(m)
	s := newShelf(k.nodes)
	buffer := make([]byte, 0, 4096)
	x := trie.Open(k.root, func(h api.Hash) ([]byte, bool) {
		scribble(buffer)
		b, ok := s.get(h)
		buffer = append(buffer[:0], b...)
		return buffer, ok
	})
	tellsAll(t, x, m)
	for i := range 40 {
		key := fmt.Sprint(i, "x")
		switch i % 4 {
		case 0:
			remove(t, x, key)
			delete(m, key)
		case 1:
			put(t, x, key, "new")
			m[key] = "new"
		case 2:
			put(t, x, key+"more", "more")
			m[key+"more"] = "more"
		}
		scribble(buffer)
		tells(t, x, m, key)
	}
	covers(t, x, k.nodes, m)
	tellsAll(t, x, m)
}

// TestToldMayBeChanged: what was told, its spare room too: neither the trie nor another answer is touched.
func TestToldMayBeChanged(t *testing.T) {
	m := wordy("do verb dog puppy doge coin horse stallion d " + strings.Repeat("v", 60))
	own := filled(t, m)
	k := reckon(m)
	over := trie.New(k.root, k.nodes)
	put(t, over, "dog", "other")
	put(t, over, "dog", "puppy")
	for _, x := range []*trie.Trie{own, over} {
		for range 3 {
			first, second := x.Nodes(), x.Nodes()
			want := sayNodes(second)
			for i := range first {
				scribble(first[i].Bytes)
				if i+1 < len(first) && !alike(first[i+1:], second[i+1:]) {
					t.Fatal("rule 3: two lists of one answer share memory")
				}
			}
			first = first[:cap(first)]
			for i := range first {
				first[i] = api.Node{}
			}
			if sayNodes(second) != want || sayNodes(x.Nodes()) != want {
				t.Fatal("rule 3: Nodes")
			}
			for key, v := range m {
				one, _, _ := x.Get([]byte(key))
				two, _, _ := x.Get([]byte(key))
				scribble(one)
				if string(two) != v {
					t.Fatalf("rule 3: Get(%q): %q", key, two)
				}
			}
			tellsAll(t, x, m)
		}
	}
	isMap(t, own, m)
	node := encoded(fork(map[int]api.Item{0: hash(1), 1: hash(2)}))
	for range 3 {
		l, _ := trie.Children(node)
		if !slices.Equal(l, []api.Hash{api.Hash(hash(1).Bytes), api.Hash(hash(2).Bytes)}) {
			t.Fatalf("rule 3: Children: %x", l)
		}
		l = l[:cap(l)]
		for i := range l {
			l[i] = api.Hash{}
		}
		for _, b := range [][]byte{trie.Nibbles([]byte("dog")), trie.Secure([]byte("dog"))} {
			scribble(b)
		}
		packed, _ := trie.Pack([]byte{1, 2, 3}, false)
		path, _, _ := trie.Unpack([]byte{0x11, 0x23})
		if string(packed) != "\x11\x23" || string(path) != "\x01\x02\x03" {
			t.Fatalf("rule 3: %x, %x", packed, path)
		}
		scribble(packed)
		scribble(path)
	}
}
