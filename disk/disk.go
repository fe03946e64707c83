// Package disk: files that may be lost: what is done is seen at once, but lasts only once it is synced.
package disk

import (
	"bytes"
	"maps"
	"slices"

	"pandect/api"
)

// mostBytes bounds offsets, sizes and lengths that are asked for.
const mostBytes = 1 << 24

// Disk has files under names. The zero Disk is one without room.
type Disk struct {
	room int64
	used int64 // bytes of the files that have a name, as they are seen
	ops  int
	left int // operations up to the one that fails, that one too; 0: none does

	seen  names
	kept  names     // the names that last
	laid  []nameOp  // what turns kept into seen, oldest first
	made  int       // the last number that was given to a file
	files fileTable // also those without a name that a crash may give one back
}

// A fileTable has files by their numbers.
type fileTable map[int]*file

// New makes a disk of that much room.
func New(room int64) *Disk {
	return &Disk{room: max(room, 0)}
}

// Create makes a file of no bytes.
func (d *Disk) Create(name string) api.Errno {
	if e := d.begin(mayName(name)); e != api.OK {
		return e
	}
	if _, is := d.seen[name]; is {
		return api.ErrMany
	}
	d.makeTables()
	d.made++
	d.files[d.made] = &file{}
	d.alter(create{name, d.made}.redo)
	return api.OK
}

// Write lays b into a file at off.
func (d *Disk) Write(name string, off int64, b []byte) api.Errno {
	f, e := d.find(name, mayNumber(off))
	if e != api.OK || len(b) == 0 {
		return e
	}
	if !d.hasRoom(f, off+int64(len(b))) {
		return api.ErrFull
	}
	d.used += f.alter(write{int(off), bytes.Clone(b)}.redo)
	return api.OK
}

// Read tells n bytes of a file from off on.
func (d *Disk) Read(name string, off int64, n int) ([]byte, api.Errno) {
	f, e := d.find(name, mayNumber(off) && mayNumber(int64(n)))
	if e != api.OK {
		return nil, e
	}
	if off+int64(n) > int64(len(f.seen)) {
		return nil, api.ErrForm
	}
	return bytes.Clone(f.seen[off : off+int64(n)]), api.OK
}

// Truncate gives a file just size bytes.
func (d *Disk) Truncate(name string, size int64) api.Errno {
	f, e := d.find(name, mayNumber(size))
	if e != api.OK {
		return e
	}
	if !d.hasRoom(f, size) {
		return api.ErrFull
	}
	d.used += f.alter(truncate{int(size)}.redo)
	return api.OK
}

// Sync makes last what was done to a file's bytes.
func (d *Disk) Sync(name string) api.Errno {
	f, e := d.find(name, true)
	if e != api.OK {
		return e
	}
	f.settle(always)
	return api.OK
}

// Rename gives a file the name to; whoever had that is gone.
func (d *Disk) Rename(from, to string) api.Errno {
	if _, e := d.find(from, mayName(to)); e != api.OK {
		return e
	}
	if from != to {
		d.empty(to)
	}
	d.alter(rename{from, to}.redo)
	return api.OK
}

// Remove takes a file away.
func (d *Disk) Remove(name string) api.Errno {
	if _, e := d.find(name, true); e != api.OK {
		return e
	}
	d.empty(name)
	d.alter(remove{name}.redo)
	return api.OK
}

// SyncDir makes last what was done to names.
func (d *Disk) SyncDir() api.Errno {
	if e := d.begin(true); e != api.OK {
		return e
	}
	d.settle(len(d.laid))
	return api.OK
}

// Size tells how many bytes a file has, and whether it is there.
func (d *Disk) Size(name string) (int64, bool) {
	if d == nil {
		return 0, false
	}
	number, is := d.seen[name]
	if !is {
		return 0, false
	}
	return int64(len(d.files[number].seen)), true
}

// List tells the names, rising.
func (d *Disk) List() []string {
	if d == nil {
		return nil
	}
	return slices.Sorted(maps.Keys(d.seen))
}

// Fail lets the n-th operation from now on fail.
func (d *Disk) Fail(n int) {
	if d != nil {
		d.left = max(n, 0)
	}
}

// Ops tells how many operations there were.
func (d *Disk) Ops() int {
	if d == nil {
		return 0
	}
	return d.ops
}

// Copy makes a disk that is as this one is, and goes its own way.
func (d *Disk) Copy() *Disk {
	if d == nil {
		return nil
	}
	c := *d
	c.seen = maps.Clone(d.seen)
	c.kept = maps.Clone(d.kept)
	c.laid = slices.Clone(d.laid)
	c.files = make(fileTable, len(d.files))
	for number, f := range d.files {
		c.files[number] = f.copy()
	}
	return &c
}

// begin counts an operation and tells what stops it before the files are
// asked: a failure goes ahead of arguments that may not be.
func (d *Disk) begin(may bool) api.Errno {
	if d == nil {
		return api.ErrArg
	}
	d.ops++
	if d.left > 0 {
		d.left--
		if d.left == 0 {
			return api.ErrIO
		}
	}
	if !may {
		return api.ErrArg
	}
	return api.OK
}

// find begins an operation on a file that has to be there.
func (d *Disk) find(name string, may bool) (*file, api.Errno) {
	if e := d.begin(may && mayName(name)); e != api.OK {
		return nil, e
	}
	number, is := d.seen[name]
	if !is {
		return nil, api.ErrNone
	}
	return d.files[number], api.OK
}

// hasRoom: a file that grows no longer asks for no room, even where a crash
// brought back more bytes than there is room for.
func (d *Disk) hasRoom(f *file, size int64) bool {
	more := size - int64(len(f.seen))
	return more <= 0 || more <= d.room-d.used
}

func mayName(name string) bool {
	return len(name) >= 1 && len(name) <= api.MaxName
}

func mayNumber(n int64) bool {
	return n >= 0 && n <= mostBytes
}
