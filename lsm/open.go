package lsm

import (
	"moraine/api"
	"moraine/disk"
)

// start makes a new store, if the disk has no files of one, and else takes up what was left. Behind it all that it tells is sure.
func (db *DB) start() error {
	f, err := findFiles(db.disk)
	if err != nil {
		return err
	}
	s := &steps{disk: db.disk}
	if !f.any {
		s.create(logName)
		s.syncDir()
		return s.err
	}
	torn, err := db.takeUp(f)
	if err != nil {
		return ofOpen(err)
	}
	if torn {
		s.truncate(logName, db.log)
	}
	// If power never fell since a store was left, bytes of its log, and names, may be pending.
	s.sync(logName)
	s.syncDir()
	return s.err
}

// takeUp reads the files of a store, and tells whether its log is torn.
func (db *DB) takeUp(f found) (bool, error) {
	v, err := loadVersion(db.disk, f.manifest)
	if err != nil {
		return false, fault(manifestName, err)
	}
	b, e := db.disk.Read(logName)
	if e != api.OK {
		return false, fault(logName, e)
	}
	l, err := readLog(b, v.Seq)
	if err != nil {
		return false, fault(logName, err)
	}
	if db.loose, err = f.loose(v, l.last); err != nil {
		return false, err
	}
	db.version = v
	for _, files := range v.Levels {
		for _, x := range files {
			if db.shelves[x.Number], err = loadTable(db.disk, x, v.Seq); err != nil {
				return false, fault(tableName(x.Number), err)
			}
		}
	}
	db.arrange()
	db.last, db.log = v.Seq, l.end
	for _, batch := range l.batches {
		if err := db.put(batch); err != nil {
			return false, err
		}
	}
	return l.torn, nil
}

// loadVersion tells the version of a disk's manifest; that without anything, if there is none.
func loadVersion(d *disk.Disk, there bool) (api.Version, error) {
	if !there {
		return api.Version{}, nil
	}
	b, e := d.Read(manifestName)
	if e != api.OK {
		return api.Version{}, fault("read", e)
	}
	return readVersion(b)
}

func loadTable(d *disk.Disk, f api.File, flushed uint64) (*shelf, error) {
	b, e := d.Read(tableName(f.Number))
	if e != api.OK {
		return nil, fault("read", e)
	}
	return openTable(f, b, flushed)
}
