package compact

import (
	"bytes"
	"container/heap"
	"slices"

	"moraine/api"
	"moraine/codec"
)

// Merge tells the entries of all lists in order, without those that nobody can see any more who looks from oldest on.
func Merge(lists [][]api.KV, oldest uint64, deeper []api.Span) ([]api.KV, api.Errno) {
	var left rows
	for _, l := range lists {
		if !rises(l) {
			return nil, api.ErrCompactOrder
		}
		if len(l) > 0 {
			heap.Push(&left, l)
		}
	}
	var kept []api.KV
	var last []byte
	stays := keeper(oldest, deeper)
merging:
	for {
		x, ok := left.next()
		switch {
		case !ok:
			break merging
		case bytes.Equal(x.Key, last):
			return nil, api.ErrCompactOrder
		case stays(x.Key):
			kept = append(kept, copied(x))
		}
		last = x.Key
	}
	return kept, api.OK
}

// rows: what is left of lists that rise, none of them empty, as a heap: the first entry of all is the top one's first.
type rows [][]api.KV

func (r rows) Len() int { return len(r) }

func (r rows) Less(i, k int) bool {
	order, _ := codec.Compare(r[i][0].Key, r[k][0].Key)
	return order < 0
}

func (r rows) Swap(i, k int) { r[i], r[k] = r[k], r[i] }

// Push is called by package heap.
func (r *rows) Push(l any) { *r = append(*r, l.([]api.KV)) }

// Pop is called by package heap.
func (r *rows) Pop() any {
	end := len(*r) - 1
	l := (*r)[end]
	*r = (*r)[:end]
	return l
}

// next takes the first entry of all that are left; false, if none is.
func (r *rows) next() (api.KV, bool) {
	if r.Len() == 0 {
		return api.KV{}, false
	}
	top := (*r)[0]
	if len(top) == 1 {
		heap.Pop(r)
		return top[0], true
	}
	(*r)[0] = top[1:]
	heap.Fix(r, 0)
	return top[0], true
}

// keeper tells a function that is to be asked of each entry's key, in order, whether the entry stays.
func keeper(oldest uint64, deeper []api.Span) func(key []byte) bool {
	covered := within(deeper)
	var user []byte
	seen := false // whether there was an entry of user that everybody sees who sees none above oldest
	return func(key []byte) bool {
		next, seq, kind, _ := codec.Split(key)
		if !bytes.Equal(next, user) {
			user, seen = next, false
		}
		if seen {
			return false
		}
		seen = seq <= oldest
		return !seen || kind == api.Set || covered(user)
	}
}

// within tells a function that is to be asked of user keys that don't fall, whether one is in a span: so each span is looked at once.
func within(spans []api.Span) func(user []byte) bool {
	ahead := slices.Clone(spans)
	slices.SortFunc(ahead, func(a, b api.Span) int { return bytes.Compare(a.Least, b.Least) })
	var reach []byte // the greatest Most of the spans that have begun
	begun := false
	return func(user []byte) bool {
		for ; len(ahead) > 0 && bytes.Compare(ahead[0].Least, user) <= 0; ahead = ahead[1:] {
			if most := ahead[0].Most; !begun || bytes.Compare(most, reach) > 0 {
				reach, begun = most, true
			}
		}
		return begun && bytes.Compare(user, reach) <= 0
	}
}
