package freezer

import (
	"moraine/api"
	"moraine/disk"
)

// files: a disk whose errors tell what was done.
type files struct{ disk *disk.Disk }

func (x files) names() ([]string, error) {
	names, e := x.disk.Names()
	return names, fault("names", e)
}

func (x files) read(name string) ([]byte, error) {
	b, e := x.disk.Read(name)
	return b, fault("read "+name, e)
}

func (x files) readAt(name string, at, size int) ([]byte, error) {
	b, e := x.disk.ReadAt(name, at, size)
	return b, fault("read "+name, e)
}

// checkEmpty tells an error, if a file has any bytes.
func (x files) checkEmpty(name string) error {
	b, err := x.read(name)
	if err == nil && len(b) > 0 {
		return fault(name+" isn't empty", api.ErrFreezerBroken)
	}
	return err
}

func (x files) create(name string) error {
	return fault("create "+name, x.disk.Create(name))
}

func (x files) append(name string, b []byte) error {
	return fault("append "+name, x.disk.Append(name, b))
}

func (x files) truncate(name string, size int) error {
	return fault("truncate "+name, x.disk.Truncate(name, size))
}

func (x files) sync(name string) error {
	return fault("sync "+name, x.disk.Sync(name))
}

func (x files) rename(from, to string) error {
	return fault("rename "+from, x.disk.Rename(from, to))
}

func (x files) remove(name string) error {
	return fault("remove "+name, x.disk.Remove(name))
}

func (x files) syncNames() error {
	return fault("sync names", x.disk.SyncDir())
}
