package snap

import (
	"bytes"
	"maps"
	"slices"

	"moraine/api"
	"moraine/rawdb"
	"moraine/triedb"
)

// Reset makes a root's disk layer the only layer, and nothing of it is generated.
func (t *Tree) Reset(root api.Hash) error {
	return fault("reset", t.reset(root))
}

// reset writes the new state ahead of all else: when the old records go, none of them is known any more.
func (t *Tree) reset(root api.Hash) error {
	next := state{root: root}
	records, err := t.clearing(nil, nil)
	if err != nil {
		return err
	}
	chunks, err := t.savedChunks()
	if err != nil {
		return err
	}
	if err := t.write(slices.Concat([]api.Op{next.op()}, records, deleting(chunks))); err != nil {
		return err
	}
	t.disk, t.layers, t.made = next, map[api.Hash]layer{}, nil
	return nil
}

// Generate makes records of the next n entries of the disk layer's flat world, and tells whether these were the last ones.
func (t *Tree) Generate(tdb *triedb.DB, n int) (bool, error) {
	if n < 1 || t.disk.done {
		return t.disk.done, nil
	}
	if err := t.generate(tdb, n); err != nil {
		return false, fault("generate", err)
	}
	return t.disk.done, nil
}

// generate looks for one entry more than it writes: up to there no other one is still to come.
func (t *Tree) generate(tdb *triedb.DB, n int) error {
	next := t.disk
	next.from, next.done = nil, true
	var records []api.Op
	for x, err := range flatWorld(tdb, t.disk.root, t.disk.from) {
		if err != nil {
			return err
		}
		if len(records) == n {
			next.from, next.done = x.Key, false
			break
		}
		records = append(records, recordOp(x.Key, x.Value))
	}
	// Calls that were cut off may have left records there that aren't in this world.
	old, err := t.clearing(t.disk.from, next.from)
	if err != nil {
		return err
	}
	if err := t.write(slices.Concat(old, records, []api.Op{next.op()})); err != nil {
		return err
	}
	t.disk = next
	return nil
}

// Flatten makes one with the disk layer what stands from root down, but for the first layers.
func (t *Tree) Flatten(root api.Hash, layers int) error {
	if err := t.find(root); err != nil {
		return fault("flatten", err)
	}
	var lower []api.Hash
	for at := range t.row(root) {
		if layers > 0 {
			layers--
			continue
		}
		lower = append(lower, at)
	}
	if len(lower) == 0 {
		return nil
	}
	return fault("flatten", t.flatten(lower))
}

// flatten takes the roots of a row of layers down to the lowest one. As long as their changes are written by half, nothing is known.
func (t *Tree) flatten(roots []api.Hash) error {
	changes := map[string][]byte{}
	for _, root := range slices.Backward(roots) {
		maps.Copy(changes, t.layers[root].changes)
	}
	half, next := state{root: roots[0]}, t.disk
	next.root, next.saved, next.chunks = roots[0], 0, 0
	ops := []api.Op{half.op()}
	for _, key := range slices.Sorted(maps.Keys(changes)) {
		if t.disk.knows([]byte(key)) {
			ops = append(ops, recordOp([]byte(key), changes[key]))
		}
	}
	chunks, err := t.savedChunks()
	if err != nil {
		return err
	}
	if err := t.write(slices.Concat(ops, []api.Op{next.op()}, deleting(chunks))); err != nil {
		return err
	}
	t.disk = next
	t.dropOthers()
	return nil
}

// dropOthers drops the layers that don't stand above the disk layer.
func (t *Tree) dropOthers() {
	layers := map[api.Hash]layer{}
	var made []api.Hash
	for _, root := range t.made { // a parent is always ahead of what stands above it
		l := t.layers[root]
		if _, ok := layers[l.parent]; ok || l.parent == t.disk.root {
			layers[root], made = l, append(made, root)
		}
	}
	t.layers, t.made = layers, made
}

// recordKey tells where a flat key's record stands in the store.
func recordKey(key []byte) []byte {
	if len(key) == accountKey {
		return rawdb.AccountKey(api.Hash(key))
	}
	return rawdb.SlotKey(api.Hash(key[:hashSize]), api.Hash(key[hashSize:]))
}

// recordOp writes a flat key's record, or takes it away, if the value has no byte.
func recordOp(key, value []byte) api.Op {
	return api.Op{Delete: len(value) == 0, Key: recordKey(key), Value: value}
}

// clearing takes away all records of flat keys from one on to another one (none: to the last one).
func (t *Tree) clearing(from, to []byte) ([]api.Op, error) {
	least := make([]byte, slotKey)
	most := bytes.Repeat([]byte{0xFF}, slotKey)
	copy(least, from)
	copy(most, to)
	var old [][]byte
	for _, size := range []int{accountKey, slotKey} {
		for key, err := range t.stored(recordKey(least[:size]), recordKey(most[:size])) {
			if err != nil {
				return nil, err
			}
			if _, e := rawdb.Parse(key); e == api.OK && bytes.Compare(key[1:], from) >= 0 {
				old = append(old, key)
			}
		}
	}
	return deleting(old), nil
}
