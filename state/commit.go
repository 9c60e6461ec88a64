package state

import (
	"bytes"
	"slices"

	"moraine/api"
	"moraine/rawdb"
	"moraine/trie"
)

// Commit inserts the nodes of the world, writes its codes, and tells its root, and what has changed.
func (s *State) Commit() (api.Hash, []api.KV, error) {
	var bad trouble
	w, err := s.reckon()
	bad.add(err)
	slots, err := s.slotChanges()
	bad.add(err)
	codes, err := s.newCodes()
	bad.add(err)
	if bad.err == nil {
		bad.add(s.keep(w, codes))
	}
	if bad.err != nil {
		return api.Hash{}, nil, fault("commit", bad.err)
	}
	*s = *Open(w.tree.Root(), s.nodes, s.store)
	flat := slices.Concat(w.changes, slots)
	slices.SortFunc(flat, func(a, b api.KV) int { return bytes.Compare(a.Key, b.Key) })
	return s.root, flat, nil
}

// keep writes codes, and inserts the nodes of a world. Codes go first: where one isn't written, nothing is inserted.
func (s *State) keep(w world, codes []api.Op) error {
	for _, op := range codes {
		if err := s.store.Write([]api.Op{op}); err != nil {
			return err
		}
	}
	var nodes []api.Node
	for _, a := range s.addresses() {
		nodes = append(nodes, w.storages[a].Nodes()...)
	}
	return s.nodes.Insert(w.tree.Root(), append(nodes, w.tree.Nodes()...))
}

// newCodes tells how those codes are written that the store hasn't got.
func (s *State) newCodes() ([]api.Op, error) {
	var l []api.Op
	var bad trouble
	met := map[api.Hash]struct{}{}
	for _, a := range s.addresses() {
		b := s.met[a].now
		if _, again := met[b.Code]; again || len(b.code) == 0 {
			continue
		}
		met[b.Code] = struct{}{}
		key := rawdb.CodeKey(b.Code)
		stored, _, err := s.store.Get(key)
		bad.add(err)
		if !bytes.Equal(stored, b.code) {
			l = append(l, api.Op{Key: key, Value: b.code})
		}
	}
	return l, bad.err
}

// slotChanges tells the flat changes of slots.
func (s *State) slotChanges() ([]api.KV, error) {
	var l []api.KV
	var bad trouble
	for _, a := range s.addresses() {
		x := s.met[a]
		now := x.now.settled()
		changes := now.changes()
		if now.Root != x.root { // it was destroyed: changes are all that it has
			was, err := s.entries(x.root)
			bad.add(err)
			changes = differ(was, changes)
		}
		key := trie.Secure(a[:])
		for _, c := range changes {
			l = append(l, api.KV{Key: slices.Concat(key, c.Key), Value: c.Value})
		}
	}
	return l, bad.err
}

// differ tells what leads from some entries to other ones, in no order that means anything; what is taken away has no value.
func differ(was, now []api.KV) []api.KV {
	left := map[api.Hash][]byte{}
	for _, x := range was {
		left[api.Hash(x.Key)] = x.Value
	}
	var l []api.KV
	for _, x := range now {
		key := api.Hash(x.Key)
		if !bytes.Equal(left[key], x.Value) {
			l = append(l, x)
		}
		delete(left, key)
	}
	for key := range left {
		l = append(l, api.KV{Key: key[:]})
	}
	return l
}
