// Package disk: files that may be lost or torn: see doc/01-disk.md.
package disk

import (
	"maps"
	"slices"

	"moraine/api"
)

// Disk: a directory of files, and what it was told about faults to come.
type Disk struct {
	capacity int
	dir      directory
	used     int // bytes of the files that have a name on the seen side
	made     int // files, ever
	count    int // changing calls, ever
	fail     int // the changing call from now on that fails; 0: none
	halt     int // changing calls that power stays for; below 0: all
	down     bool
}

// New makes a disk without files.
func New(capacity int) (*Disk, api.Errno) {
	if capacity < 0 || capacity > api.MaxDisk {
		return nil, api.ErrDiskSize
	}
	d := &Disk{capacity: capacity, halt: -1}
	for on := range d.dir.files {
		d.dir.files[on] = map[string]*file{}
	}
	return d, api.OK
}

// Create makes a file of no bytes.
func (d *Disk) Create(name string) api.Errno {
	if e := d.begin(); e != api.OK {
		return e
	}
	_, e := d.find(name)
	switch {
	case e == api.ErrDiskName:
		return e
	case e == api.OK:
		return api.ErrDiskThere
	case d.made >= api.MaxFiles:
		return api.ErrDiskFull
	}
	d.dir.do(create{&d.dir, name, &file{number: d.made}})
	d.made++
	return api.OK
}

// Append puts b behind a file's bytes.
func (d *Disk) Append(name string, b []byte) api.Errno {
	f, e := d.beginOn(name)
	if e != api.OK {
		return e
	}
	return d.put(f, f.size(), b)
}

// WriteAt puts b in the place of what stands from the byte at on.
func (d *Disk) WriteAt(name string, at int, b []byte) api.Errno {
	f, e := d.beginOn(name)
	if e != api.OK {
		return e
	}
	if at < 0 || at > f.size() {
		return api.ErrDiskPlace
	}
	return d.put(f, at, b)
}

// Truncate leaves a file its first n bytes.
func (d *Disk) Truncate(name string, n int) api.Errno {
	f, e := d.beginOn(name)
	if e != api.OK {
		return e
	}
	less := f.size() - n
	switch {
	case n < 0 || n > f.size():
		return api.ErrDiskPlace
	case less == 0: // nothing that a Restart would have to pay for
		return api.OK
	}
	f.do(truncate{f, n})
	d.used -= less
	return api.OK
}

// Sync makes a file's bytes sure; its name isn't by that.
func (d *Disk) Sync(name string) api.Errno {
	f, e := d.beginOn(name)
	if e != api.OK {
		return e
	}
	f.settle(enough)
	return api.OK
}

// Rename gives a file another name, whoever had that one.
func (d *Disk) Rename(from, to string) api.Errno {
	if e := d.begin(); e != api.OK {
		return e
	}
	if !isName(to) {
		return api.ErrDiskName
	}
	if _, e := d.find(from); e != api.OK {
		return e
	}
	if from == to { // nothing that a Restart would have to pay for
		return api.OK
	}
	if over, e := d.find(to); e == api.OK {
		d.used -= over.size()
	}
	d.dir.do(rename{&d.dir, from, to})
	return api.OK
}

// Remove takes a file's name from it.
func (d *Disk) Remove(name string) api.Errno {
	f, e := d.beginOn(name)
	if e != api.OK {
		return e
	}
	d.used -= f.size()
	d.dir.do(remove{&d.dir, name})
	return api.OK
}

// SyncDir makes sure which file has which name; their bytes aren't by that.
func (d *Disk) SyncDir() api.Errno {
	if e := d.begin(); e != api.OK {
		return e
	}
	d.dir.settle(enough)
	return api.OK
}

// Read tells all bytes of a file.
func (d *Disk) Read(name string) ([]byte, api.Errno) {
	f, e := d.look(name)
	if e != api.OK {
		return nil, e
	}
	return slices.Clone(f.bytes[seen]), api.OK
}

// ReadAt tells n bytes of a file, from the byte at on.
func (d *Disk) ReadAt(name string, at, n int) ([]byte, api.Errno) {
	f, e := d.look(name)
	if e != api.OK {
		return nil, e
	}
	// The sum of at and n may be too great for an int; the difference isn't.
	if at < 0 || n < 0 || at > f.size() || n > f.size()-at {
		return nil, api.ErrDiskPlace
	}
	return slices.Clone(f.bytes[seen][at : at+n]), api.OK
}

// Size tells how many bytes a file has.
func (d *Disk) Size(name string) (int, api.Errno) {
	f, e := d.look(name)
	if e != api.OK {
		return 0, e
	}
	return f.size(), api.OK
}

// Names tells the names of all files, rising.
func (d *Disk) Names() ([]string, api.Errno) {
	if d.down {
		return nil, api.ErrDiskDown
	}
	return slices.Sorted(maps.Keys(d.dir.files[seen])), api.OK
}

// Used tells how many bytes all files that have a name have.
func (d *Disk) Used() int { return d.used }

// Count tells how many changing calls there were.
func (d *Disk) Count() int { return d.count }

// Fail lets the n-th changing call from now on fail; none, if n is below 1.
func (d *Disk) Fail(n int) { d.fail = max(n, 0) }

// Halt lets power fall at the changing call behind n more; at none, if n is below 0. Power that has fallen is there again by Restart alone.
func (d *Disk) Halt(n int) { d.halt = max(n, -1) }

// Restart leaves what is sure, and as much of what is pending as c says.
func (d *Disk) Restart(c api.Crash) {
	d.dir.settle(max(c.Names, 0))
	d.dir.files[seen] = maps.Clone(d.dir.files[sure])
	d.used = 0
	for _, f := range d.dir.files[seen] {
		f.settle(spend(c.Bytes, f.number))
		f.bytes[seen] = slices.Clone(f.bytes[sure])
		d.used += f.size()
	}
	d.fail, d.halt, d.down = 0, -1, false
}

// spend tells how many bytes of a file's pending changes survive.
func spend(bytes []int, number int) int {
	if number >= len(bytes) {
		return 0
	}
	return max(bytes[number], 0)
}

// begin counts a changing call, and tells the fault that it was told to have.
func (d *Disk) begin() api.Errno {
	d.count++
	falls, fails := d.halt == 0, d.fail == 1
	if d.halt > 0 {
		d.halt--
	}
	if d.fail > 0 {
		d.fail--
	}
	switch {
	case falls:
		d.down = true
		fallthrough
	case d.down:
		return api.ErrDiskDown
	case fails:
		return api.ErrDiskIO
	}
	return api.OK
}

// beginOn begins a changing call on a file that must be there.
func (d *Disk) beginOn(name string) (*file, api.Errno) {
	if e := d.begin(); e != api.OK {
		return nil, e
	}
	return d.find(name)
}

// look finds a file for a call that reads.
func (d *Disk) look(name string) (*file, api.Errno) {
	if d.down {
		return nil, api.ErrDiskDown
	}
	return d.find(name)
}

// find tells the file that has the name on the seen side.
func (d *Disk) find(name string) (*file, api.Errno) {
	if !isName(name) {
		return nil, api.ErrDiskName
	}
	f := d.dir.files[seen][name]
	if f == nil {
		return nil, api.ErrDiskNone
	}
	return f, api.OK
}

// put writes b into a file from a place within its length on.
func (d *Disk) put(f *file, at int, b []byte) api.Errno {
	more := max(at+len(b)-f.size(), 0)
	switch {
	case more > 0 && d.used+more > d.capacity:
		return api.ErrDiskFull
	case len(b) == 0: // nothing that a Restart would have to pay for
		return api.OK
	}
	f.do(write{f, at, slices.Clone(b)})
	d.used += more
	return api.OK
}

func isName(name string) bool {
	if len(name) < 1 || len(name) > api.MaxName {
		return false
	}
	for i := range len(name) {
		if !isNameByte(name[i]) {
			return false
		}
	}
	return true
}

func isNameByte(c byte) bool {
	switch {
	case 'a' <= c && c <= 'z', '0' <= c && c <= '9', c == '.', c == '-', c == '_':
		return true
	}
	return false
}
