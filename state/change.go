package state

import (
	"bytes"
	"math"

	"moraine/api"
	"moraine/keccak"
)

const codeMost = 4096 // bytes of a code

// edit changes an account's body, as far as f, which does it, takes that.
func (s *State) edit(op string, a api.Addr, f func(b *body) api.Errno) error {
	x, err := s.load(a)
	if err != nil {
		return fault(op, err)
	}
	now := x.now
	if e := f(&now); e != api.OK {
		return fault(op, e)
	}
	s.change(a, x, now)
	return nil
}

// Add makes an account's balance greater.
func (s *State) Add(a api.Addr, n api.Word) error {
	return s.edit("add", a, func(b *body) api.Errno {
		sum, ok := plus(b.Balance, n)
		if !ok {
			return api.ErrStateOver
		}
		b.Balance = sum
		return api.OK
	})
}

// Sub makes an account's balance smaller.
func (s *State) Sub(a api.Addr, n api.Word) error {
	return s.edit("sub", a, func(b *body) api.Errno {
		left, ok := minus(b.Balance, n)
		if !ok {
			return api.ErrStateUnder
		}
		b.Balance = left
		return api.OK
	})
}

// SetNonce gives an account a nonce.
func (s *State) SetNonce(a api.Addr, n uint64) error {
	return s.edit("set nonce", a, func(b *body) api.Errno {
		if n == math.MaxUint64 {
			return api.ErrStateOver
		}
		b.Nonce = n
		return api.OK
	})
}

// SetCode gives an account a code.
func (s *State) SetCode(a api.Addr, code []byte) error {
	return s.edit("set code", a, func(b *body) api.Errno {
		if len(code) > codeMost {
			return api.ErrStateCode
		}
		b.Code, b.code = keccak.Sum(code), bytes.Clone(code)
		return api.OK
	})
}

// Destroy leaves nothing of an account.
func (s *State) Destroy(a api.Addr) error {
	return s.edit("destroy", a, func(b *body) api.Errno {
		*b = makeBody(emptyAccount())
		return api.OK
	})
}

// SetSlot gives an account a word under a key.
func (s *State) SetSlot(a api.Addr, k, v api.Word) error {
	x, err := s.load(a)
	if err != nil {
		return fault("set slot", err)
	}
	old, err := s.slotOf(x.now, k)
	if err != nil {
		return fault("set slot", err)
	}
	put := func(y slot) { x.now.slots[k], x.now.storage = y, nil }
	s.note(func() { put(old) })
	put(slot{old.was, v})
	s.met[a] = x
	return nil
}
