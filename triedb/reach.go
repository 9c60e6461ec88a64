package triedb

import (
	"bytes"

	"moraine/api"
	"moraine/trie"
)

// node: what is dirty, or is to be.
type node struct {
	hash  api.Hash
	bytes []byte
	below []api.Hash // what is reached from it at once; some of it may be no node that anybody has
}

// makeNode makes a node of bytes that trie.Check takes.
func makeNode(h api.Hash, b []byte) node {
	children, _ := trie.Children(b)
	return node{h, bytes.Clone(b), append(children, storages(b)...)}
}

// reach tells the nodes that are reached from roots, each once, going on through those that look tells.
func reach(look func(h api.Hash) (node, bool), roots ...api.Hash) []node {
	met := map[api.Hash]struct{}{}
	var l []node
	var visit func(h api.Hash)
	visit = func(h api.Hash) {
		if _, ok := met[h]; ok {
			return
		}
		n, ok := look(h)
		if !ok {
			return
		}
		met[h] = struct{}{}
		l = append(l, n)
		for _, below := range n.below {
			visit(below)
		}
	}
	for _, root := range roots {
		visit(root)
	}
	return l
}
