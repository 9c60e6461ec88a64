package state

import (
	"bytes"
	"maps"
	"slices"

	"moraine/api"
	"moraine/keccak"
	"moraine/rlp"
	"moraine/trie"
)

// account: what an address has.
type account struct {
	record []byte   // as the state's root has it; none, if there is none
	root   api.Hash // that of its storage there
	told   api.Hash // that of its storage, as Root told it last
	now    body
}

// body: what of an account may be changed, and taken back.
type body struct {
	api.Account                   // its Root is that of the storage that slots are laid over
	code        []byte            // its code, if that was set since the state's root; else the store has it
	slots       map[api.Word]slot // those that were set, above that storage
	storage     *trie.Trie        // of all of its slots, as Root made it; nil, if they were changed since
}

// slot: what the storage below has under a key, and what is there now.
type slot struct{ was, now api.Word }

// emptyAccount tells what an address without an account has.
func emptyAccount() api.Account {
	return api.Account{Root: trie.Empty(), Code: keccak.Sum()}
}

func makeAccount(base api.Account, record []byte) *account {
	return &account{record, base.Root, base.Root, makeBody(base)}
}

func makeBody(a api.Account) body {
	return body{Account: a, slots: map[api.Word]slot{}}
}

func isNone(a api.Account) bool {
	return a.Nonce == 0 && a.Balance == api.Word{} && a.Code == keccak.Sum()
}

// isBare tells whether there are no slots. No node is needed for that: if all that the storage below has was taken away, the trie of just that has its root.
func (b body) isBare() bool {
	gone := trie.New(trie.Empty(), nil)
	for k, x := range b.slots {
		if x.now != (api.Word{}) {
			return false
		}
		if x.was != (api.Word{}) {
			gone.Put(trie.Secure(k[:]), rlp.Word(x.was))
		}
	}
	return gone.Root() == b.Root
}

// isClear tells whether neither slots nor a storage below them are there: nothing is to be taken away.
func (b body) isClear() bool { return b.Root == trie.Empty() && len(b.slots) == 0 }

// settled tells what Root leaves of an account: nothing, if it is none.
func (b body) settled() body {
	if isNone(b.Account) {
		return makeBody(emptyAccount())
	}
	return b
}

// recordOver tells an account's record, with the root of its storage; none, if it is none.
func (b body) recordOver(storage api.Hash) []byte {
	if isNone(b.Account) {
		return nil
	}
	b.Root = storage
	return Encode(b.Account)
}

// changes tells in which slots the storage differs from the one below, by their secure keys; those that are taken away have no value.
func (b body) changes() []api.KV {
	var l []api.KV
	for _, k := range slices.SortedFunc(maps.Keys(b.slots), compareWords) {
		x := b.slots[k]
		switch {
		case x.now == x.was:
		case x.now == api.Word{}:
			l = append(l, api.KV{Key: trie.Secure(k[:])})
		default:
			l = append(l, api.KV{Key: trie.Secure(k[:]), Value: rlp.Word(x.now)})
		}
	}
	return l
}

func compareWords(a, b api.Word) int { return bytes.Compare(a[:], b[:]) }
