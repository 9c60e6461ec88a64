package rawdb_test

import (
	"bytes"
	"encoding/hex"
	"fmt"
	"math/rand"
	"strings"
	"testing"

	"moraine/api"
	"moraine/rawdb"
)

// someHashes: of bytes that are all 0, all 255, all unlike, and others.
func someHashes() []api.Hash {
	l := make([]api.Hash, 3)
	for i := range 32 {
		l[1][i], l[2][i] = 255, byte(17+7*i)
	}
	return append(l, api.Hash{31: 1}, api.Hash{1})
}

func someNumbers() []uint64 {
	return []uint64{0, 1, 255, 256, 258, 0x0102030405060708, 1<<56 - 1, 1 << 56, 1 << 63, greatest}
}

func someNames() []string {
	return []string{"a", "z", "b", "prune", "abcdefghijklmnopqrstuvwxyz", strings.Repeat("a", 31), strings.Repeat("z", 32)}
}

// made: a key, and what it was made of.
type made struct {
	key  []byte
	want api.RawKey
}

// someKeys: of each kind.
func someKeys(t *testing.T) []made {
	t.Helper()
	var l []made
	for _, h := range someHashes() {
		l = append(l,
			made{rawdb.NodeKey(h), api.RawKey{Letter: 'n', First: h}},
			made{rawdb.CodeKey(h), api.RawKey{Letter: 'c', First: h}},
			made{rawdb.AccountKey(h), api.RawKey{Letter: 'a', First: h}})
		for _, slot := range someHashes() {
			l = append(l, made{rawdb.SlotKey(h, slot), api.RawKey{Letter: 'o', First: h, Second: slot}})
		}
	}
	for _, n := range someNumbers() {
		l = append(l,
			made{rawdb.RootKey(n), api.RawKey{Letter: 'r', Number: n}},
			made{rawdb.BlockKey(n), api.RawKey{Letter: 'b', Number: n}})
	}
	for _, name := range someNames() {
		k, e := rawdb.MarkerKey(name)
		if e != api.OK {
			t.Errorf("P13.1: MarkerKey(%q): %d", name, e)
		}
		l = append(l, made{k, api.RawKey{Letter: 'm', Name: name}})
	}
	return l
}

// spelt: a key by the chapter's words.
func spelt(k api.RawKey) string {
	number := ""
	for i := 7; i >= 0; i-- {
		number += string([]byte{byte(k.Number >> (8 * i))})
	}
	parts := map[byte]string{
		'n': string(k.First[:]), 'c': string(k.First[:]), 'a': string(k.First[:]),
		'o': string(k.First[:]) + string(k.Second[:]),
		'r': number, 'b': number, 'm': k.Name,
	}
	return string([]byte{k.Letter}) + parts[k.Letter]
}

// TestExamples: the chapter's.
func TestExamples(t *testing.T) {
	if got := hex.EncodeToString(rawdb.RootKey(258)); got != "720000000000000102" {
		t.Errorf("P13.1: %s", got)
	}
	if k, e := rawdb.MarkerKey("prune"); hex.EncodeToString(k) != "6d7072756e65" || e != api.OK {
		t.Errorf("P13.1: %x, %d", k, e)
	}
	if k, e := rawdb.Parse([]byte("n" + strings.Repeat("x", 31))); k != (api.RawKey{}) || e != api.ErrRawForm {
		t.Errorf("P13.2: %v, %d", k, e)
	}
}

// TestKeys: each kind's bytes.
func TestKeys(t *testing.T) {
	for _, x := range someKeys(t) {
		if string(x.key) != spelt(x.want) {
			t.Errorf("P13.1: %x of %v", x.key, x.want)
		}
	}
}

// TestMarkerNames: names that no marker has.
func TestMarkerNames(t *testing.T) {
	wrong := []string{"", strings.Repeat("a", 33), strings.Repeat("b", 1000), "\x60", "\x7b", "a\x60", "\x7ba", "az{", "`az", "A", "Z", "a1", "a b", "a\x00", "\x00", "\xff", "pr\u00fcne"}
	wrong = append(wrong, strings.Repeat("a", 31)+"{", strings.Repeat("a", 32)+"\x00")
	for _, name := range wrong {
		if k, e := rawdb.MarkerKey(name); len(k) != 0 || e != api.ErrRawName {
			t.Errorf("P13.1: MarkerKey(%q): %x, %d", name, k, e)
		}
		if k, e := rawdb.Parse([]byte("m" + name)); k != (api.RawKey{}) || e != api.ErrRawForm {
			t.Errorf("P13.2: Parse of m and %q: %v, %d", name, k, e)
		}
	}
	for c := range 256 {
		name := string([]byte{'a', byte(c)})
		want := api.ErrRawName
		if c >= 'a' && c <= 'z' {
			want = api.OK
		}
		if _, e := rawdb.MarkerKey(name); e != want {
			t.Errorf("P13.1: MarkerKey(%q): %d", name, e)
		}
	}
}

// TestParse: that it tells what a key was made of, and nothing of one that is shorter or longer.
func TestParse(t *testing.T) {
	for _, x := range someKeys(t) {
		if k, e := rawdb.Parse(x.key); k != x.want || e != api.OK {
			t.Errorf("P13.2: Parse(%x): %v, %d", x.key, k, e)
		}
		for _, key := range [][]byte{x.key[:len(x.key)-1], append(bytes.Clone(x.key), 0), append(bytes.Clone(x.key), 'a')} {
			want, ok := x.want, false
			if x.want.Letter == 'm' {
				want.Name = string(key[1:])
				ok = key[len(key)-1] != 0 && len(want.Name) > 0 && len(want.Name) <= 32
			}
			k, e := rawdb.Parse(key)
			if ok && (k != want || e != api.OK) || !ok && (k != (api.RawKey{}) || e != api.ErrRawForm) {
				t.Errorf("P13.2: Parse(%x): %v, %d", key, k, e)
			}
		}
	}
}

// TestParseEachLength: each letter, alone and with whatever behind it.
func TestParseEachLength(t *testing.T) {
	if k, e := rawdb.Parse(nil); k != (api.RawKey{}) || e != api.ErrRawForm {
		t.Errorf("P13.2: Parse of no byte: %v, %d", k, e)
	}
	widths := map[byte]int{'n': 32, 'c': 32, 'a': 32, 'o': 64, 'r': 8, 'b': 8}
	for letter := range 256 {
		for size := range 140 {
			key := append([]byte{byte(letter)}, bytes.Repeat([]byte("q"), size)...)
			width, known := widths[byte(letter)]
			ok := known && size == width || letter == 'm' && 1 <= size && size <= 32
			k, e := rawdb.Parse(key)
			if ok && (e != api.OK || spelt(k) != string(key)) || !ok && (k != (api.RawKey{}) || e != api.ErrRawForm) {
				t.Fatalf("P13.2: Parse(%q): %v, %d", key, k, e)
			}
		}
	}
}

// TestKeysApart: that no two keys of unlike parts are the same.
func TestKeysApart(t *testing.T) {
	seen := map[string]api.RawKey{}
	for _, x := range someKeys(t) {
		if other, there := seen[string(x.key)]; there {
			t.Errorf("P13.5: %v and %v have one key", other, x.want)
		}
		seen[string(x.key)] = x.want
	}
}

// TestDrawnKeys: parts that are drawn.
func TestDrawnKeys(t *testing.T) {
	r := rand.New(rand.NewSource(13))
	for range 3000 {
		k := api.RawKey{Letter: "ncaorbm"[r.Intn(7)]}
		var key []byte
		switch k.Letter {
		case 'o':
			r.Read(k.First[:])
			r.Read(k.Second[:])
			key = rawdb.SlotKey(k.First, k.Second)
		case 'r', 'b':
			k.Number = r.Uint64() >> r.Intn(64)
			key = map[byte]func(uint64) []byte{'r': rawdb.RootKey, 'b': rawdb.BlockKey}[k.Letter](k.Number)
		case 'm':
			for range 1 + r.Intn(32) {
				k.Name += fmt.Sprintf("%c", 'a'+r.Intn(26))
			}
			key, _ = rawdb.MarkerKey(k.Name)
		default:
			r.Read(k.First[:])
			key = map[byte]func(api.Hash) []byte{'n': rawdb.NodeKey, 'c': rawdb.CodeKey, 'a': rawdb.AccountKey}[k.Letter](k.First)
		}
		got, e := rawdb.Parse(key)
		if string(key) != spelt(k) || got != k || e != api.OK {
			t.Fatalf("P13.1, P13.5: %x: %v, %d, not %v", key, got, e, k)
		}
	}
}
