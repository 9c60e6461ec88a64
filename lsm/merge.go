package lsm

import (
	"slices"

	"moraine/api"
	"moraine/compact"
	"moraine/manifest"
	"moraine/mem"
)

// maxPieces: tables that one Compact makes. A disk makes only so many files ever, so that they can't be as many as there are keys, however small Plan has tables.
const maxPieces = 256

// Flush makes a table of what was written since the last Flush.
func (db *DB) Flush() error {
	if err := db.checkAlive(); err != nil {
		return fault("flush", err)
	}
	_, err := db.flush()
	return fault("flush", err)
}

// Compact merges tables of a level into the next one.
func (db *DB) Compact(level int) (bool, error) {
	if err := db.checkAlive(); err != nil {
		return false, fault("compact", err)
	}
	done, err := db.compact(level)
	return done, fault("compact", err)
}

// Settle does at most n steps towards a store with nothing to flush and no full level.
func (db *DB) Settle(n int) (int, error) {
	if err := db.checkAlive(); err != nil {
		return 0, fault("settle", err)
	}
	ahead := db.view
	done := 0
	for done < n {
		more, err := db.step()
		if err != nil {
			if db.dead != nil {
				// A call that answers an error has changed nothing: neither have the steps that were done.
				db.view = ahead
			}
			return 0, fault("settle", err)
		}
		if !more {
			break
		}
		done++
	}
	return done, nil
}

// step does what is to be done next, and tells whether there was anything.
func (db *DB) step() (bool, error) {
	if done, err := db.flush(); done || err != nil {
		return done, err
	}
	level, full, e := compact.Score(db.version, db.options.Sizes)
	if e != api.OK || !full {
		return false, fault("score", e)
	}
	return db.compact(level)
}

// flush tells whether there was anything to make a table of.
func (db *DB) flush() (bool, error) {
	l := slices.Collect(db.fresh.All())
	if len(l) == 0 {
		return false, nil
	}
	added, err := makeTable(db.version.Next, l, db.options.Plan)
	if err != nil {
		return false, err
	}
	edit := api.Edit{Next: db.version.Next + 1, Seq: db.last, Add: []api.Placed{{Level: 0, File: added.file}}}
	next, s, err := db.change(edit, []made{added})
	if err != nil {
		return false, err
	}
	// The table is sure, and its batches are passed over wherever they still stand in the log.
	s.truncate(logName, 0)
	if err := db.end(s); err != nil {
		return false, err
	}
	next.fresh = mem.New(db.options.Heights)
	db.view, db.log = next, 0
	return true, nil
}

// compact tells whether the level had any table.
func (db *DB) compact(level int) (bool, error) {
	var after []byte
	if 0 <= level && level < api.MaxLevels {
		after = db.after[level]
	}
	task, ok, e := compact.Pick(db.version, level, after)
	if e != api.OK || !ok {
		return false, fault("pick", e)
	}
	added, err := db.merge(task)
	if err != nil {
		return false, err
	}
	edit := api.Edit{Next: db.version.Next + len(added), Seq: db.version.Seq}
	for i, files := range [][]api.File{task.Upper, task.Lower} {
		for _, f := range files {
			edit.Drop = append(edit.Drop, api.Gone{Level: level + i, Number: f.Number})
		}
	}
	for _, m := range added {
		edit.Add = append(edit.Add, api.Placed{Level: level + 1, File: m.file})
	}
	next, s, err := db.change(edit, added)
	if err != nil {
		return false, err
	}
	for _, g := range edit.Drop {
		s.remove(tableName(g.Number))
	}
	if err := db.end(s); err != nil {
		return false, err
	}
	next.after[level] = task.Upper[len(task.Upper)-1].Most
	db.view = next
	return true, nil
}

// merge tells the tables that come of a task's.
func (db *DB) merge(task api.Task) ([]made, error) {
	var lists [][]api.KV
	for _, f := range slices.Concat(task.Upper, task.Lower) {
		l, e := db.shelves[f.Number].table.All()
		if e != api.OK {
			return nil, fault(tableName(f.Number), e)
		}
		lists = append(lists, l)
	}
	deeper, e := compact.Deeper(db.version, task.Level+1)
	if e != api.OK {
		return nil, fault("deeper", e)
	}
	l, e := compact.Merge(lists, db.oldest(), deeper)
	if e != api.OK {
		return nil, fault("merge", e)
	}
	pieces, e := compact.Cut(l, max(db.options.Plan.Table, fewest(l)))
	if e != api.OK {
		return nil, fault("cut", e)
	}
	var added []made
	for i, piece := range pieces {
		m, err := makeTable(db.version.Next+i, piece, db.options.Plan)
		if err != nil {
			return nil, err
		}
		added = append(added, m)
	}
	return added, nil
}

// fewest tells the least size by which l is cut into at most maxPieces.
func fewest(l []api.KV) int {
	size := 0
	for _, x := range l {
		size += len(x.Key) + len(x.Value)
	}
	return (size + maxPieces - 1) / maxPieces
}

// change begins the steps by which the version goes on to the next one: when they are done it is sure. The answers: the view of that version, and the steps, to go on with.
func (db *DB) change(e api.Edit, added []made) (view, *steps, error) {
	v, wrong := manifest.Apply(db.version, e)
	if wrong != api.OK {
		return view{}, nil, fault("apply", wrong)
	}
	b, err := writeVersion(v)
	if err != nil {
		return view{}, nil, err
	}
	s := db.begin()
	for _, m := range added {
		s.write(tableName(m.file.Number), m.bytes)
	}
	s.write(draftName, b)
	// Names are changed in order: where this one is, those of the tables are.
	s.rename(draftName, manifestName)
	s.syncDir()
	return db.view.next(v, added), s, nil
}
