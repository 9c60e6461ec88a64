package lsm

import (
	"bytes"
	"iter"
	"maps"
	"slices"
	"sort"

	"moraine/api"
	"moraine/codec"
	"moraine/compact"
	"moraine/mem"
)

// view: what a store reads from. A step makes another one of it, and changes nothing that it hangs on.
type view struct {
	version api.Version
	shelves map[int]*shelf          // the version's tables, by their numbers
	rows    [api.MaxLevels][]*shelf // the same, by levels, of level 0 the newest first
	stops   [][]byte                // of all of them, rising
	fresh   *mem.Table              // what was written since the last Flush
	after   [api.MaxLevels][]byte   // where the last Compact of a level ended
}

// arrange fills what hangs on the version and its shelves.
func (w *view) arrange() {
	w.rows, w.stops = [api.MaxLevels][]*shelf{}, nil
	for level, files := range w.version.Levels {
		for _, f := range files {
			s := w.shelves[f.Number]
			w.rows[level] = append(w.rows[level], s)
			w.stops = append(w.stops, s.stops...)
		}
	}
	slices.Reverse(w.rows[0])
	slices.SortFunc(w.stops, bytes.Compare)
}

// next tells the view with the version v, which added tables are new in.
func (w view) next(v api.Version, added []made) view {
	w.version, w.shelves = v, maps.Clone(w.shelves)
	for _, m := range added {
		w.shelves[m.file.Number] = m.shelf
	}
	there := levelsOf(v)
	maps.DeleteFunc(w.shelves, func(number int, _ *shelf) bool {
		_, ok := there[number]
		return !ok
	})
	w.arrange()
	return w
}

// met gives the tables that may have user keys from least to most (an empty most: up to the end): of those that have one user key, the ones with later entries first.
func (w *view) met(least, most []byte) iter.Seq[*shelf] {
	return func(yield func(*shelf) bool) {
		for level, row := range w.rows {
			if level > 0 { // these rise, and are apart
				row = row[sort.Search(len(row), func(i int) bool { return bytes.Compare(row[i].most, least) >= 0 }):]
			}
			for _, s := range row {
				apart := isBehind(s.least, most)
				if apart && level > 0 {
					break
				}
				if apart || bytes.Compare(s.most, least) < 0 {
					continue
				}
				if !yield(s) {
					return
				}
			}
		}
	}
}

// get tells a key's value in the world at a moment.
func (w *view) get(key []byte, at uint64) ([]byte, bool, error) {
	if value, kind, ok := w.fresh.Get(key, at); ok {
		return value, kind == api.Set, nil
	}
	for s := range w.met(key, key) {
		value, kind, ok, e := s.table.Get(key, at)
		if e != api.OK {
			return nil, false, fault("table", e)
		}
		if ok {
			return value, kind == api.Set, nil
		}
	}
	return nil, false, nil
}

// world gives the keys from least to most in the world at a moment, and their values, rising; or an error, and nothing behind it. It merges no more at once than it takes to give about as many as size.
func (w *view) world(least, most []byte, at uint64, size int) iter.Seq2[api.KV, error] {
	return func(yield func(api.KV, error) bool) {
		for from, more := least, true; more; {
			lists, end, err := w.lists(from, most, size)
			if err != nil {
				yield(api.KV{}, err)
				return
			}
			// Who sees nothing above at needs neither what stands behind an entry up to at, nor a delete.
			l, e := compact.Merge(lists, at, nil)
			if e != api.OK {
				yield(api.KV{}, fault("merge", e))
				return
			}
			for _, x := range l {
				user, seq, _, _ := codec.Split(x.Key)
				if seq <= at && !yield(api.KV{Key: user, Value: x.Value}, nil) {
					return
				}
			}
			more = !bytes.Equal(end, most)
			from = append(bytes.Clone(end), 0) // the first user key behind end
		}
	}
}

// lists tells all entries of the user keys from least on up to one that it tells, too, which isn't behind most.
func (w *view) lists(least, most []byte, size int) ([][]api.KV, []byte, error) {
	end := most
	at := sort.Search(len(w.stops), func(i int) bool { return bytes.Compare(w.stops[i], least) >= 0 })
	if at += size / stride; at < len(w.stops) {
		end = nearer(w.stops[at], most)
	}
	recent, end := w.recent(least, end, size+stride)
	lists := [][]api.KV{recent}
	for s := range w.met(least, end) {
		l, e := s.table.Range(least, end)
		if e != api.OK {
			return nil, nil, fault("table", e)
		}
		lists = append(lists, l)
	}
	return lists, end, nil
}

// nearer tells stop, or most, if that isn't behind it, or stop is empty: what ends there goes up to the end.
func nearer(stop, most []byte) []byte {
	if len(stop) == 0 || len(most) > 0 && bytes.Compare(most, stop) <= 0 {
		return most
	}
	return stop
}

// recent tells the entries that no table has of the user keys from least to most, or, if these are more than size, to one ahead of it; and which one that is.
func (w *view) recent(least, most []byte, size int) ([]api.KV, []byte) {
	var l []api.KV
	var last []byte
	for x := range w.fresh.From(least) {
		user := userOf(x.Key)
		if isBehind(user, most) {
			break
		}
		if len(l) >= size && len(last) > 0 && !bytes.Equal(user, last) {
			return l, last
		}
		l, last = append(l, x), user
	}
	return l, most
}
