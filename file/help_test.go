package file_test

import (
	"bytes"
	"math/rand/v2"
	"testing"

	"pandect/api"
	"pandect/disk"
	"pandect/file"
	"pandect/rec"
	"pandect/slot"
)

const (
	slots   = 256
	longest = "1234567890123456"
	tooLong = "12345678901234567"
	most    = 1 << 24 // what the disk takes as an off, a size
)

func lot(seed int) *rand.Rand { return rand.New(rand.NewPCG(uint64(seed), 5)) }

// drawn makes n bytes, the same ones each time.
func drawn(n int) []byte {
	l := lot(n)
	b := make([]byte, n)
	for i := range b {
		b[i] = byte(l.IntN(256))
	}
	return b
}

// fresh makes a file "f" on a disk of its own.
func fresh(t *testing.T, room int64) (*disk.Disk, *file.File) {
	t.Helper()
	d := disk.New(room)
	f, e := file.Create(d, "f")
	fine(t, e)
	return d, f
}

func fine(t *testing.T, e api.Errno) {
	t.Helper()
	tells(t, e, api.OK)
}

func tells(t *testing.T, got, want api.Errno) {
	t.Helper()
	if got != want {
		t.Fatalf("it tells %d, not %d", got, want)
	}
}

func opens(t *testing.T, d *disk.Disk, name string) *file.File {
	t.Helper()
	f, e := file.Open(d, name)
	fine(t, e)
	return f
}

// appends lays a record that has to begin at want.
func appends(t *testing.T, f *file.File, kind byte, body []byte, want int64) {
	t.Helper()
	at, e := f.Append(kind, body)
	if at != want || e != api.OK {
		t.Fatalf("%d bytes: it begins at %d, %d; not %d", len(body), at, e, want)
	}
	ends(t, f, want+9+int64(len(body)))
}

func ends(t *testing.T, f *file.File, want int64) {
	t.Helper()
	if got := f.End(); got != want {
		t.Errorf("it ends at %d, not %d", got, want)
	}
}

func reads(t *testing.T, f *file.File, off int64, kind byte, body []byte) {
	t.Helper()
	gotKind, gotBody, e := f.Read(off)
	if gotKind != kind || !bytes.Equal(gotBody, body) || e != api.OK {
		t.Errorf("at %d: %d, %.20q, %d; not %d, %.20q", off, gotKind, gotBody, e, kind, body)
	}
}

// unread: no record is told, and nothing beside that.
func unread(t *testing.T, f *file.File, off int64, want api.Errno) {
	t.Helper()
	kind, body, e := f.Read(off)
	if kind != 0 || len(body) != 0 || e != want {
		t.Errorf("at %d: %d, %.20q, %d; not %d", off, kind, body, e, want)
	}
}

func held(t *testing.T, f *file.File, gen uint64, body string) {
	t.Helper()
	gotGen, gotBody, e := f.Held()
	if gotGen != gen || string(gotBody) != body || e != api.OK {
		t.Errorf("%d, %.20q, %d holds; not %d, %.20q", gotGen, gotBody, e, gen, body)
	}
}

// unheld: nothing is told to hold, and nothing beside that.
func unheld(t *testing.T, f *file.File, want api.Errno) {
	t.Helper()
	gen, body, e := f.Held()
	if gen != 0 || len(body) != 0 || e != want {
		t.Errorf("%d, %.20q, %d holds; not %d", gen, body, e, want)
	}
}

// text tells all bytes of a file, "-" where there is none. It asks a copy, so
// that the disk's own operations go on as if nothing was asked.
func text(d *disk.Disk, name string) string {
	c := d.Copy()
	c.Fail(0)
	n, is := c.Size(name)
	if !is {
		return "-"
	}
	b, e := c.Read(name, 0, int(n))
	if e != api.OK {
		return "?"
	}
	return string(b)
}

// laid is a record's bytes.
func laid(kind byte, body []byte) string {
	b, _ := rec.Put(kind, body)
	return string(b)
}

// place is a slot's bytes.
func place(gen uint64, body []byte) string {
	b, _ := slot.Put(gen, body)
	return string(b)
}

// noughts are the bytes of a slot that holds nothing.
func noughts() string { return string(make([]byte, api.Sector)) }
