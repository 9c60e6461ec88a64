package rawdb

import (
	"math"

	"moraine/api"
	"moraine/lsm"
)

// pageRecords: that are asked of the store at once.
const pageRecords = 1024

// Roots tells all roots that have a record, rising by number.
func Roots(db *lsm.DB) ([]api.Numbered, error) {
	return roots(db, pageRecords)
}

// roots asks the store for so many records at once.
func roots(db *lsm.DB, size int) ([]api.Numbered, error) {
	var l []api.Numbered
	least, most := RootKey(0), RootKey(math.MaxUint64)
	for more := true; more; {
		page, err := db.Range(least, most, db.Last(), size)
		if err != nil {
			return nil, fault("roots", err)
		}
		if l, err = appendRoots(l, page); err != nil {
			return nil, fault("roots", err)
		}
		if more = len(page) == size; more {
			least = append(page[size-1].Key, 0) // the first key behind it
		}
	}
	return l, nil
}

// appendRoots puts the roots of records behind l. A key that only begins like a root's has none.
func appendRoots(l []api.Numbered, records []api.KV) ([]api.Numbered, error) {
	for _, x := range records {
		k, e := Parse(x.Key)
		if e != api.OK {
			continue
		}
		root := api.Numbered{N: k.Number}
		if len(x.Value) != len(root.Root) {
			return nil, api.ErrRawForm
		}
		copy(root.Root[:], x.Value)
		l = append(l, root)
	}
	return l, nil
}

// PutRoot writes a root's record.
func PutRoot(db *lsm.DB, n uint64, root api.Hash) error {
	return fault("put root", db.Write([]api.Op{{Key: RootKey(n), Value: root[:]}}))
}

// DropRoot deletes a root's record.
func DropRoot(db *lsm.DB, n uint64) error {
	return fault("drop root", db.Write([]api.Op{{Delete: true, Key: RootKey(n)}}))
}
