package state_test

import (
	"bytes"
	"encoding/hex"
	"math/big"
	"math/rand"
	"testing"

	"moraine/api"
	"moraine/keccak"
	"moraine/rlp"
	"moraine/state"
	"moraine/trie"
)

// isRecord: that Decode takes a record, and Encode tells it.
func isRecord(t *testing.T, a api.Account, want string) {
	t.Helper()
	if got := state.Encode(a); string(got) != want {
		t.Fatalf("P18.1: Encode(%v): %x, not %x", a, got, want)
	}
	if got, e := state.Decode([]byte(want)); got != a || e != api.OK {
		t.Fatalf("P18.1: Decode(%x): %v, %d", want, got, e)
	}
}

func TestExampleRecord(t *testing.T) {
	t.Parallel()
	a := api.Account{Balance: word(1), Root: trie.Empty(), Code: keccak.Sum()}
	want, _ := hex.DecodeString("f8448001a056e81f171bcc55a6ff8345e692c0f86e5b48e01b996cadc001622fb5e363b421a0c5d2460186f7233c927e7db2dcc703c0e500b653ca82273b7bfad8045d85a470")
	isRecord(t, a, string(want))
}

// TestRecords: numbers of all lengths, hashes of all kinds, of what no world has, too.
func TestRecords(t *testing.T) {
	t.Parallel()
	r := rand.New(rand.NewSource(1))
	hashes := []api.Hash{{}, {1}, {31: 1}, trie.Empty(), keccak.Sum()}
	for bits := range 257 {
		n := new(big.Int).Lsh(big.NewInt(1), uint(bits))
		for _, d := range []int64{-1, 0, 1} {
			balance := new(big.Int).Add(n, big.NewInt(d))
			if balance.BitLen() > 256 {
				continue
			}
			nonce := uint64(1)<<(bits%64) + uint64(d)
			root, code := hashes[r.Intn(len(hashes))], hashes[r.Intn(len(hashes))]
			isRecord(t, api.Account{Nonce: nonce, Balance: wordOf(balance), Root: root, Code: code}, record(nonce, balance, root, code))
		}
	}
	isRecord(t, api.Account{}, record(0, new(big.Int), api.Hash{}, api.Hash{}))
}

// TestNoRecords: what Encode doesn't tell of any account.
func TestNoRecords(t *testing.T) {
	t.Parallel()
	h, none := hashed(api.Hash{7}), text(nil)
	sized := func(n int) api.Item { return text(bytes.Repeat([]byte{5}, n)) }
	for what, x := range map[string]api.Item{
		"no list": sized(32), "none": list(), "three": list(none, none, h), "five": list(none, none, h, h, none), "four lists": list(list(), list(), list(), list()),
		"a nonce with 0 ahead": list(text([]byte{0}), none, h, h), "one with two": list(text([]byte{0, 1}), none, h, h), "a balance with 0 ahead": list(none, text([]byte{0}), h, h), "another": list(none, text([]byte{0, 255}), h, h),
		"a nonce of 9 bytes": list(sized(9), none, h, h), "a balance of 33 bytes": list(none, sized(33), h, h), "one of 60": list(none, sized(60), h, h),
		"a root of 31 bytes": list(none, none, sized(31), h), "of 33": list(none, none, sized(33), h), "of none": list(none, none, none, h), "a list there": list(none, none, list(sized(31)), h),
		"a code of 31 bytes": list(none, none, h, sized(31)), "a code of 33": list(none, none, h, sized(33)), "no code": list(none, none, h, none), "a list for a code": list(none, none, h, list()),
		"a list for a nonce": list(list(), none, h, h), "a list for a balance": list(none, list(none), h, h), "an item within": list(list(none, none, h, h)),
	} {
		if a, e := state.Decode([]byte(encoded(x))); a != (api.Account{}) || e != api.ErrTrieForm {
			t.Errorf("P18.1: Decode of %s: %v, %d", what, a, e)
		}
	}
	good := []byte(record(300, big.NewInt(70000), api.Hash{1}, api.Hash{2}))
	for _, b := range [][]byte{nil, {}, {0}, {0xC0}, {0xFF}, append(bytes.Clone(good), 0), append(bytes.Clone(good), good...), bytes.Repeat([]byte{0xC1}, 40), make([]byte, 70000)} {
		if a, e := state.Decode(b); a != (api.Account{}) || e != api.ErrTrieForm {
			t.Errorf("P18.1: Decode(%.99x): %v, %d", b, a, e)
		}
	}
	// A list with its length in more bytes than it needs.
	long := append([]byte{0xF9, 0}, good[1:]...)
	if _, e := state.Decode(long); e != api.ErrTrieForm {
		t.Errorf("P18.1: Decode(%x): %d", long, e)
	}
}

// TestHurtRecords: each cut, and each byte changed: what Decode takes, Encode tells.
func TestHurtRecords(t *testing.T) {
	t.Parallel()
	good := record(300, big.NewInt(70000), api.Hash{1}, api.Hash{2})
	taken := 0
	for i := range good {
		if a, e := state.Decode([]byte(good[:i])); a != (api.Account{}) || e != api.ErrTrieForm {
			t.Errorf("P18.1: cut at %d: %v, %d", i, a, e)
		}
		for x := range 256 {
			b := []byte(good)
			b[i] = byte(x)
			a, e := state.Decode(b)
			item, decoded := rlp.Decode(b)
			want := decoded == api.OK && len(item.Items) == 4 && byWords(item.Items)
			if (e == api.OK) != want || e == api.OK && !bytes.Equal(state.Encode(a), b) || e != api.OK && (e != api.ErrTrieForm || a != (api.Account{})) {
				t.Fatalf("P18.1: Decode(%x): %v, %d", b, a, e)
			}
			if e == api.OK {
				taken++
			}
		}
	}
	if taken < 64*250 {
		t.Errorf("only %d were taken", taken)
	}
}

// byWords: whether four items are a record's.
func byWords(l []api.Item) bool {
	for i, most := range []int{8, 32, 32, 32} {
		b := l[i].Bytes
		if l[i].List || len(b) > most || i > 1 && len(b) < most || i < 2 && len(b) > 0 && b[0] == 0 {
			return false
		}
	}
	return true
}
