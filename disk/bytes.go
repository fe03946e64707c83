package disk

import (
	"bytes"
	"slices"

	"pandect/api"
)

// A file is bytes: those that are seen, and those that last.
type file struct {
	seen []byte
	kept []byte
	laid []byteOp // what turns kept into seen, oldest first
}

// A byteOp does again to b what was done to a file, as far as it lasts: it
// asks once for each piece of it, in order. It changes b and may tell new
// bytes, but never changes what it holds itself: copies of a disk share it.
type byteOp func(b []byte, lasts func() bool) []byte

// always is what lasts where all does.
func always() bool { return true }

type write struct {
	off int
	b   []byte
}

// redo goes piece by piece, since a disk may keep one sector and lose the next.
func (w write) redo(b []byte, lasts func() bool) []byte {
	for at := 0; at < len(w.b); {
		off := w.off + at
		n := min(api.Sector-off%api.Sector, len(w.b)-at)
		if lasts() {
			b = put(b, off, w.b[at:at+n])
		}
		at += n
	}
	return b
}

type truncate struct{ size int }

func (t truncate) redo(b []byte, lasts func() bool) []byte {
	if lasts() {
		b = fit(b, t.size)
	}
	return b
}

// put lays a piece into b at off.
func put(b []byte, off int, piece []byte) []byte {
	if end := off + len(piece); end > len(b) {
		b = fit(b, end)
	}
	copy(b[off:], piece)
	return b
}

// fit gives b just size bytes. The noughts are written even into spare room:
// bytes that were cut off may still lie there.
func fit(b []byte, size int) []byte {
	if size <= len(b) {
		return b[:size]
	}
	return append(b, make([]byte, size-len(b))...)
}

// alter does op to what is seen, lays it by for what lasts, and tells how
// many bytes more are seen.
func (f *file) alter(op byteOp) int64 {
	had := len(f.seen)
	f.seen = op(f.seen, always)
	f.laid = append(f.laid, op)
	return int64(len(f.seen) - had)
}

// settle makes of what was laid by those pieces last that lasts says.
func (f *file) settle(lasts func() bool) {
	for _, op := range f.laid {
		f.kept = op(f.kept, lasts)
	}
	f.laid = nil
}

func (f *file) copy() *file {
	return &file{bytes.Clone(f.seen), bytes.Clone(f.kept), slices.Clone(f.laid)}
}
