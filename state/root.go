package state

import (
	"bytes"
	"maps"
	"slices"

	"moraine/api"
	"moraine/trie"
)

// world: what a state is, behind Root.
type world struct {
	tree     *trie.Trie
	storages map[api.Addr]*trie.Trie // of the accounts that were met
	changes  []api.KV                // of records, by the accounts' secure keys; those that are taken away have no value
}

// Root takes accounts that are none away, and tells the root of the world's trie.
func (s *State) Root() (api.Hash, error) {
	w, err := s.reckon()
	if err != nil {
		return api.Hash{}, fault("root", err)
	}
	for _, a := range s.addresses() {
		x := s.met[a]
		if isNone(x.now.Account) && !x.now.isClear() {
			s.change(a, x, x.now.settled())
		}
		x.now.storage = w.storages[a]
		x.told = x.now.storage.Root()
	}
	return w.tree.Root(), nil
}

// addresses tells whose accounts were met, rising.
func (s *State) addresses() []api.Addr {
	return slices.SortedFunc(maps.Keys(s.met), func(a, b api.Addr) int { return bytes.Compare(a[:], b[:]) })
}

// reckon makes the tries of the world, as it is behind Root, and changes nothing. All of it is laid over what the state was opened at, so that nothing hangs on what was there in between.
func (s *State) reckon() (world, error) {
	w := world{storages: map[api.Addr]*trie.Trie{}}
	var bad trouble
	for _, a := range s.addresses() {
		x := s.met[a]
		storage, err := s.storage(x.now.settled())
		bad.add(err)
		record := x.record // where the storage isn't known, the account's way is looked at nevertheless
		if err == nil {
			record = x.now.recordOver(storage.Root())
		}
		w.storages[a] = storage
		if err != nil || !bytes.Equal(record, x.record) {
			w.changes = append(w.changes, api.KV{Key: trie.Secure(a[:]), Value: record})
		}
	}
	v := s.view(s.root)
	bad.add(v.lay(w.changes))
	w.tree = v.tree
	return w, bad.err
}

// storage tells the trie of an account's slots.
func (s *State) storage(b body) (*trie.Trie, error) {
	if b.storage != nil {
		return b.storage, nil
	}
	v := s.view(b.Root)
	return v.tree, v.lay(b.changes())
}
