package rawdb

import (
	"errors"

	"moraine/api"
	"moraine/freezer"
	"moraine/lsm"
)

const (
	batchBlocks = 256 // blocks that are deleted at once
	blocksTable = 0   // of a freezer
	noItem      = -1  // that no freezer has
)

// PutBlock puts a block behind the others.
func PutBlock(db *lsm.DB, f *freezer.Freezer, n uint64, b []byte) error {
	if err := checkNext(db, f, n); err != nil {
		return fault("put block", err)
	}
	return fault("put block", db.Write([]api.Op{{Key: BlockKey(n), Value: b}}))
}

// checkNext tells the error, if n isn't the number of the block that comes next.
func checkNext(db *lsm.DB, f *freezer.Freezer, n uint64) error {
	head := uint64(f.Head())
	if n < head {
		return api.ErrRawOrder
	}
	_, there, err := db.Get(BlockKey(n))
	if err != nil {
		return err
	}
	if there {
		return api.ErrRawOrder
	}
	if n == head {
		return nil
	}
	_, there, err = db.Get(BlockKey(n - 1))
	if err != nil {
		return err
	}
	if !there {
		return api.ErrRawOrder
	}
	return nil
}

// Block tells a block's bytes.
func Block(db *lsm.DB, f *freezer.Freezer, n uint64) ([]byte, bool, error) {
	if n >= uint64(f.Head()) {
		b, there, err := db.Get(BlockKey(n))
		return b, there, fault("block", err)
	}
	b, err := f.Get(blocksTable, int(n))
	if errors.Is(err, api.ErrFreezerItem) { // it was cut off at the tail
		return nil, false, nil
	}
	return b, err == nil, fault("block", err)
}

// Move puts blocks whose numbers are below before from the store to the freezer.
func Move(db *lsm.DB, f *freezer.Freezer, before uint64) (int, error) {
	return move(db, f, before, batchBlocks)
}

// move deletes so many blocks at once. They are deleted when they are sure in the freezer, so that each is there, in one of both at least, whenever power falls.
func move(db *lsm.DB, f *freezer.Freezer, before uint64, size int) (int, error) {
	first := f.Head()
	err := freeze(db, f, before)
	if err == nil {
		err = f.Sync()
	}
	if err == nil {
		err = deleteBlocks(db, first, f.Head(), size)
	}
	return f.Head() - first, fault("move", err)
}

// freeze appends the store's blocks below before to the freezer, up to the first that isn't there.
func freeze(db *lsm.DB, f *freezer.Freezer, before uint64) error {
	values := make([][]byte, countTables(f))
	for uint64(f.Head()) < before {
		b, there, err := db.Get(BlockKey(uint64(f.Head())))
		if err != nil || !there {
			return err
		}
		values[blocksTable] = b
		if err := f.Append(f.Head(), values); err != nil {
			return err
		}
	}
	return nil
}

// countTables tells how many tables a freezer has: asked for an item that isn't there, it misses the table ahead of the item. (A closed one has as many as matters: the first.)
func countTables(f *freezer.Freezer) int {
	for count := blocksTable + 1; ; count++ {
		if _, err := f.Get(count, noItem); !errors.Is(err, api.ErrFreezerItem) {
			return count
		}
	}
}

// deleteBlocks takes the blocks from one number on up to another one from the store.
func deleteBlocks(db *lsm.DB, from, to, size int) error {
	for from < to {
		var batch []api.Op
		for range min(size, to-from) {
			batch = append(batch, api.Op{Delete: true, Key: BlockKey(uint64(from))})
			from++
		}
		if err := db.Write(batch); err != nil {
			return err
		}
	}
	return nil
}
