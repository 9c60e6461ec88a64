package state

import (
	"moraine/api"
	"moraine/trie"
)

// view: a trie over the nodes that a state reads.
type view struct {
	tree *trie.Trie
	err  error // why the store didn't tell a node
}

func (s *State) view(root api.Hash) *view {
	v := &view{}
	v.tree = trie.Open(root, func(h api.Hash) ([]byte, bool) {
		b, ok, err := s.nodes.Get(h)
		if err != nil {
			v.err = err
		}
		return b, ok
	})
	return v
}

// why tells the error of a call of the trie: the store's own one, if a node isn't there because of that.
func (v *view) why(e api.Errno) error {
	switch {
	case e == api.OK:
		return nil
	case v.err != nil:
		return v.err
	}
	return e
}

// lay makes changes, as far as it can. What is taken away goes last: so no node is needed but those that the new root needs.
func (v *view) lay(changes []api.KV) error {
	var bad trouble
	for _, c := range changes {
		if len(c.Value) > 0 {
			bad.add(v.why(v.tree.Put(c.Key, c.Value)))
		}
	}
	for _, c := range changes {
		if len(c.Value) == 0 {
			bad.add(v.why(v.tree.Delete(c.Key)))
		}
	}
	return bad.err
}
