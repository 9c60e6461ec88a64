package state

import (
	"bytes"

	"moraine/api"
	"moraine/keccak"
	"moraine/rawdb"
	"moraine/rlp"
	"moraine/trie"
)

// Account tells an account, and whether it isn't none.
func (s *State) Account(a api.Addr) (api.Account, bool, error) {
	x, err := s.load(a)
	if err != nil {
		return api.Account{}, false, fault("account", err)
	}
	s.read(a, x)
	none := isNone(x.now.Account)
	if none && x.now.isBare() {
		return api.Account{}, false, nil
	}
	told := x.now.Account
	told.Root = x.told
	return told, !none, nil
}

// Code tells an account's code.
func (s *State) Code(a api.Addr) ([]byte, error) {
	x, err := s.load(a)
	if err != nil {
		return nil, fault("code", err)
	}
	code, err := s.codeOf(x.now)
	if err != nil {
		return nil, fault("code", err)
	}
	s.read(a, x)
	return code, nil
}

func (s *State) codeOf(b body) ([]byte, error) {
	if b.Code == keccak.Sum() {
		return nil, nil
	}
	if len(b.code) > 0 {
		return bytes.Clone(b.code), nil
	}
	code, ok, err := s.store.Get(rawdb.CodeKey(b.Code))
	if err == nil && !ok {
		err = api.ErrTrieNode
	}
	return code, err
}

// Slot tells the word that an account has under a key.
func (s *State) Slot(a api.Addr, k api.Word) (api.Word, error) {
	x, err := s.load(a)
	if err != nil {
		return api.Word{}, fault("slot", err)
	}
	v, err := s.slotOf(x.now, k)
	if err != nil {
		return api.Word{}, fault("slot", err)
	}
	s.read(a, x)
	return v.now, nil
}

func (s *State) slotOf(b body, k api.Word) (slot, error) {
	if x, ok := b.slots[k]; ok {
		return x, nil
	}
	v := s.view(b.Root)
	value, ok, e := v.tree.Get(trie.Secure(k[:]))
	if e != api.OK || !ok {
		return slot{}, v.why(e)
	}
	w, e := rlp.Unword(value)
	if e != api.OK {
		return slot{}, api.ErrTrieForm
	}
	return slot{w, w}, nil
}
