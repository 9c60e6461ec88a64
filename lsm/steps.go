package lsm

import (
	"moraine/api"
	"moraine/disk"
)

// steps makes changing calls of a disk, one behind the other, up to the first one that fails.
type steps struct {
	disk *disk.Disk
	err  error
}

func (s *steps) do(what, name string, call func() api.Errno) {
	if s.err == nil {
		s.err = fault(what+" "+name, call())
	}
}

func (s *steps) create(name string) {
	s.do("create", name, func() api.Errno { return s.disk.Create(name) })
}

func (s *steps) append(name string, b []byte) {
	s.do("append", name, func() api.Errno { return s.disk.Append(name, b) })
}

func (s *steps) truncate(name string, n int) {
	s.do("truncate", name, func() api.Errno { return s.disk.Truncate(name, n) })
}

func (s *steps) sync(name string) {
	s.do("sync", name, func() api.Errno { return s.disk.Sync(name) })
}

func (s *steps) rename(from, to string) {
	s.do("rename", from, func() api.Errno { return s.disk.Rename(from, to) })
}

func (s *steps) remove(name string) {
	s.do("remove", name, func() api.Errno { return s.disk.Remove(name) })
}

func (s *steps) syncDir() {
	s.do("sync", "names", s.disk.SyncDir)
}

// write makes a file whose bytes, but not whose name, are sure.
func (s *steps) write(name string, b []byte) {
	s.create(name)
	s.append(name, b)
	s.sync(name)
}
