package snap

// Batches: for tests of where batches end.
var Batches = batches

// Limit lets batches have no more than so many operations, so that small calls need several.
func (t *Tree) Limit(ops int) { t.batchOps = ops }
