package file

import (
	"pandect/api"
	"pandect/rec"
	"pandect/slot"
)

// mostRecord is how many bytes a record has at most: length, kind, body, sum.
const mostRecord = 4 + 1 + api.MaxBody + 4

// A record is one that is to be appended.
type record struct {
	kind byte
	body []byte
}

func (r record) put() ([]byte, api.Errno) { return rec.Put(r.kind, r.body) }

// A state is what is to hold.
type state struct {
	gen  uint64
	body []byte
}

func (s state) put() ([]byte, api.Errno) { return slot.Put(s.gen, s.body) }

// lay writes at off what put tells, and tells how many bytes that are. What may
// not be put asks nothing of the disk.
func (f *File) lay(off int64, put func() ([]byte, api.Errno)) (int64, api.Errno) {
	if f.isNone() {
		return 0, api.ErrArg
	}
	b, e := put()
	if e != api.OK {
		return 0, e
	}
	if e := f.d.Write(f.name, off, b); e != api.OK {
		return 0, e
	}
	return int64(len(b)), api.OK
}

// from tells what stands from off on, as far as a record may go. Less than that
// is there where the file ends ahead, more where other records stand behind.
func (f *File) from(off int64) ([]byte, api.Errno) {
	size, _ := f.d.Size(f.name)
	n := min(max(size-off, 0), mostRecord)
	b, e := f.d.Read(f.name, off, int(n))
	if e == api.ErrArg {
		// The disk neither reads nor writes so far behind: no record begins there.
		return nil, api.ErrForm
	}
	return b, e
}
