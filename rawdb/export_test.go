package rawdb

// MoveBy and RootsBy are Move and Roots with a size of their own.
var (
	MoveBy  = move
	RootsBy = roots
)

const (
	BatchBlocks = batchBlocks
	PageRecords = pageRecords
)
