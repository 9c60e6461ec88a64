package lsm

import (
	"strconv"
	"strings"

	"moraine/api"
	"moraine/disk"
	"moraine/manifest"
	"moraine/wal"
)

// A store's files: a log of batches that no table has, which is there from the beginning on; a log of edits that make the version, which takes the place of the one ahead of it whole, by its name; and tables.
const (
	prefix       = "lsm-"
	logName      = prefix + "log"
	manifestName = prefix + "manifest"
	draftName    = prefix + "draft" // a manifest that isn't in its place yet
	tablePrefix  = prefix + "table-"
)

const (
	maxNumber = 1<<31 - 1 // of a table
	editAdds  = 1024      // tables that an edit of a manifest adds, so that none is too long for a record
)

func tableName(number int) string { return tablePrefix + strconv.Itoa(number) }

// tableNumber tells the number of the table that has a name; false, if none has.
func tableNumber(name string) (int, bool) {
	number, err := strconv.Atoi(strings.TrimPrefix(name, tablePrefix))
	return number, err == nil && 0 <= number && number <= maxNumber && name == tableName(number)
}

// found: the files of a store that a disk has, beside its log.
type found struct {
	any, manifest, draft bool
	tables               []int
}

// findFiles tells which files of a store there are.
func findFiles(d *disk.Disk) (found, error) {
	var f found
	names, e := d.Names()
	if e != api.OK {
		return found{}, fault("names", e)
	}
	for _, name := range names {
		if !strings.HasPrefix(name, prefix) {
			continue
		}
		f.any = true
		number, isTable := tableNumber(name)
		switch {
		case name == logName:
		case name == manifestName:
			f.manifest = true
		case name == draftName:
			f.draft = true
		case isTable:
			f.tables = append(f.tables, number)
		default:
			return found{}, fault("a file "+name, api.ErrLsmBroken)
		}
	}
	return f, nil
}

// loose tells the names of the files that a store with the version v has no use for; the error, if no step of such a store leaves them.
func (f found) loose(v api.Version, last uint64) ([]string, error) {
	used := levelsOf(v)
	var names []string
	if f.draft {
		names = append(names, draftName)
	}
	end := v.Next + maxPieces
	if !f.manifest { // no step was ever done: a Flush may have begun
		end = 1
	}
	for _, number := range f.tables {
		if number >= end {
			return nil, fault(tableName(number), api.ErrLsmBroken)
		}
		if _, ok := used[number]; !ok {
			names = append(names, tableName(number))
		}
	}
	if last == 0 && len(names) > 0 {
		return nil, fault("tables of nothing", api.ErrLsmBroken)
	}
	return names, nil
}

// levelsOf tells the levels of a version's tables, by their numbers.
func levelsOf(v api.Version) map[int]int {
	levels := map[int]int{}
	for level, files := range v.Levels {
		for _, f := range files {
			levels[f.Number] = level
		}
	}
	return levels
}

// readVersion tells the version that a manifest's edits make.
func readVersion(log []byte) (api.Version, error) {
	v, _, end, e := manifest.Replay(log)
	switch {
	case e != api.OK:
		return api.Version{}, fault("replay", e)
	case end < len(log): // it has its name when it is whole
		return api.Version{}, fault("edits that end too early", api.ErrLsmBroken)
	case v.Log != 0 || v.Seq == 0: // there is one log, and something of it was flushed
		return api.Version{}, fault("a version of no store", api.ErrLsmBroken)
	}
	return v, nil
}

// writeVersion tells the log of edits that makes v.
func writeVersion(v api.Version) ([]byte, error) {
	whole, e := manifest.Whole(v)
	if e != api.OK {
		return nil, fault("whole", e)
	}
	var log []byte
	for rest, begun := whole.Add, false; !begun || len(rest) > 0; begun = true {
		n := min(len(rest), editAdds)
		whole.Add, rest = rest[:n], rest[n:]
		record, e := manifest.Encode(whole)
		if e != api.OK {
			return nil, fault("encode", e)
		}
		more, e := wal.Append(len(log), record)
		if e != api.OK {
			return nil, fault("append", e)
		}
		log = append(log, more...)
	}
	return log, nil
}
