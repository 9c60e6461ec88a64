package snap

import (
	"bytes"
	"maps"
	"slices"

	"moraine/api"
	"moraine/rawdb"
)

// Of the names of chunks' markers: the one of the state, a row's number and a chunk's.
const (
	letters       = 'z' - 'a' + 1
	numberLetters = 14 // that any number has room in
	chunkName     = len(stateName) + 2*numberLetters
	rowPrefix     = 1 + len(stateName) + numberLetters // bytes of a key that all chunks of a row share
)

// Save keeps the difference layers, too.
func (t *Tree) Save() error { return fault("save", t.save()) }

// save writes a new row of chunks beside the one that the state names, and then the state that names the new one.
func (t *Tree) save() error {
	old, err := t.savedChunks()
	if err != nil {
		return err
	}
	named := slices.DeleteFunc(slices.Clone(old), t.isLoose)
	loose := slices.DeleteFunc(old, func(key []byte) bool { return !t.isLoose(key) })
	next := t.disk
	next.saved, next.chunks = t.disk.saved+1, 0
	ops := deleting(loose)
	for chunk := range slices.Chunk(t.layersBytes(), api.MaxValue) {
		ops = append(ops, api.Op{Key: chunkKey(next.saved, next.chunks), Value: chunk})
		next.chunks++
	}
	if err := t.write(slices.Concat(ops, []api.Op{next.op()}, deleting(named))); err != nil {
		return err
	}
	t.disk = next
	return nil
}

// isLoose tells whether a chunk's key is of a row that the state doesn't name.
func (t *Tree) isLoose(key []byte) bool {
	return !bytes.HasPrefix(key, chunkKey(t.disk.saved, 0)[:rowPrefix])
}

// layersBytes tells the difference layers as they were made: of each its roots, how many changes it has, and these.
func (t *Tree) layersBytes() []byte {
	var b []byte
	put := func(x []byte) { b = append(appendNumber(b, uint64(len(x))), x...) }
	for _, root := range t.made {
		l := t.layers[root]
		b = append(b, root[:]...)
		b = append(b, l.parent[:]...)
		b = appendNumber(b, uint64(len(l.changes)))
		for _, key := range slices.Sorted(maps.Keys(l.changes)) {
			put([]byte(key))
			put(l.changes[key])
		}
	}
	return b
}

// loadLayers takes up the difference layers that the state names.
func (t *Tree) loadLayers() error {
	var b []byte
	for i := range t.disk.chunks {
		chunk, ok, err := t.store.Get(chunkKey(t.disk.saved, i))
		if err != nil {
			return err
		}
		if !ok {
			return api.ErrRawForm
		}
		b = append(b, chunk...)
	}
	r := reader{left: b}
	for len(r.left) > 0 {
		root, parent := r.hash(), r.hash()
		var changes []api.KV
		for count := r.number(); count > 0 && !r.isShort; count-- {
			key := r.take(r.number())
			changes = append(changes, api.KV{Key: key, Value: r.take(r.number())})
		}
		if r.isShort || t.put(parent, root, changes) != nil {
			return api.ErrRawForm
		}
	}
	return nil
}

// savedChunks tells the keys of all chunks in the store.
func (t *Tree) savedChunks() ([][]byte, error) {
	var keys [][]byte
	first, last := markerKey(bytes.Repeat([]byte{'a'}, 2*numberLetters)), markerKey(bytes.Repeat([]byte{'z'}, 2*numberLetters))
	for key, err := range t.stored(first, last) {
		if err != nil {
			return nil, err
		}
		if x, e := rawdb.Parse(key); e == api.OK && len(x.Name) == chunkName {
			keys = append(keys, key)
		}
	}
	return keys, nil
}

// chunkKey tells where a chunk of a row stands in the store.
func chunkKey(row, chunk uint64) []byte {
	return markerKey(appendLetters(appendLetters(nil, row), chunk))
}

func markerKey(name []byte) []byte {
	key, _ := rawdb.MarkerKey(stateName + string(name))
	return key
}

// appendLetters puts the digits of a number behind b, so that keys rise as numbers do.
func appendLetters(b []byte, n uint64) []byte {
	var digits [numberLetters]byte
	for i := range digits {
		digits[numberLetters-1-i] = 'a' + byte(n%letters)
		n /= letters
	}
	return append(b, digits[:]...)
}
