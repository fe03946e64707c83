package disk_test

import (
	"strings"
	"testing"

	"pandect/api"
	"pandect/disk"
)

const (
	longest = "1234567890123456"
	tooLong = "12345678901234567"
	most    = 1 << 24
)

// text tells all bytes of a file, "-" where there is none. It asks a copy, so
// that the disk's own operations go on as if nothing was asked.
func text(d *disk.Disk, name string) string {
	c := d.Copy()
	c.Fail(0)
	n, is := c.Size(name)
	if !is {
		return "-"
	}
	b, e := c.Read(name, 0, int(n))
	if e != api.OK {
		return "?"
	}
	return string(b)
}

// whole tells all that is to be seen of a disk but for Ops.
func whole(d *disk.Disk) string {
	var out strings.Builder
	for _, name := range d.List() {
		out.WriteString(name + "=" + text(d, name) + ";")
	}
	return out.String()
}

// files makes a disk with these files, all of it synced: name, bytes, name ..
func files(t *testing.T, room int64, pairs ...string) *disk.Disk {
	t.Helper()
	d := disk.New(room)
	for i := 0; i < len(pairs); i += 2 {
		fine(t, d.Create(pairs[i]))
		fine(t, d.Write(pairs[i], 0, []byte(pairs[i+1])))
		fine(t, d.Sync(pairs[i]))
	}
	fine(t, d.SyncDir())
	return d
}

func fine(t *testing.T, e api.Errno) {
	t.Helper()
	tells(t, e, api.OK)
}

func tells(t *testing.T, got, want api.Errno) {
	t.Helper()
	if got != want {
		t.Errorf("it tells %d, not %d", got, want)
	}
}

func holds(t *testing.T, d *disk.Disk, want string) {
	t.Helper()
	if got := whole(d); got != want {
		t.Errorf("%q, not %q", got, want)
	}
}

// A call is one of the eight operations, named for a failed test to tell.
type call struct {
	what string
	do   func(d *disk.Disk) api.Errno
}

// operations are one of each kind, all of them possible on files "a" and "b".
func operations() []call {
	return []call{
		{"Create", func(d *disk.Disk) api.Errno { return d.Create("new") }},
		{"Write", func(d *disk.Disk) api.Errno { return d.Write("a", 1, []byte("w")) }},
		{"Read", func(d *disk.Disk) api.Errno { _, e := d.Read("a", 0, 1); return e }},
		{"Truncate", func(d *disk.Disk) api.Errno { return d.Truncate("a", 1) }},
		{"Sync", func(d *disk.Disk) api.Errno { return d.Sync("a") }},
		{"Rename", func(d *disk.Disk) api.Errno { return d.Rename("a", "b") }},
		{"Remove", func(d *disk.Disk) api.Errno { return d.Remove("a") }},
		{"SyncDir", func(d *disk.Disk) api.Errno { return d.SyncDir() }},
	}
}
