package disk_test

import (
	"bytes"
	"math"
	"slices"
	"strings"
	"testing"

	"pandect/api"
	"pandect/disk"
)

// asked does all that can be asked with these arguments.
func asked(d *disk.Disk, name, to string, n int64, b []byte) {
	d.Fail(int(n))
	d.Fail(0)
	d.Create(name)
	d.Write(name, n, b)
	d.Read(name, n, int(n))
	d.Truncate(name, n)
	d.Sync(name)
	d.Rename(name, to)
	d.Remove(name)
	d.SyncDir()
	d.Size(name)
	d.List()
	d.Ops()
	d.Copy()
	d.Crash(b)
}

func TestR1NoPanic(t *testing.T) {
	var none *disk.Disk
	for _, d := range []*disk.Disk{none, {}, disk.New(math.MinInt64), disk.New(500), disk.New(math.MaxInt64), none.Copy()} {
		for _, name := range []string{"", "a", longest, tooLong, "\xff\x00", strings.Repeat("n", 1<<16)} {
			for _, to := range []string{"a", "", "b"} {
				for _, n := range []int64{math.MinInt64, -1, 0, 1, 127, 128, most - 1, most, most + 1, math.MaxInt64} {
					for _, b := range [][]byte{nil, {}, {255}, bytes.Repeat([]byte{255}, 300)} {
						asked(d, name, to, n, b)
					}
				}
			}
		}
	}
}

// The zero Disk is asked in any order: it has no room, and is a disk else.
func TestR1TheZeroDisk(t *testing.T) {
	for _, first := range []func(d *disk.Disk){
		func(d *disk.Disk) {},
		func(d *disk.Disk) { d.Crash([]byte{1}) },
		func(d *disk.Disk) { d.SyncDir() },
		func(d *disk.Disk) { *d = *d.Copy() },
		func(d *disk.Disk) { d.Remove("a") },
	} {
		d := new(disk.Disk)
		first(d)
		fine(t, d.Create("a"))
		tells(t, d.Write("a", 0, []byte("x")), api.ErrFull)
		fine(t, d.SyncDir())
		d.Crash(nil)
		holds(t, d, "a=;")
	}
}

func TestR2NothingElseBesideAnError(t *testing.T) {
	d := files(t, 10, "a", "abc")
	for i, do := range []func() ([]byte, api.Errno){
		func() ([]byte, api.Errno) { return d.Read("a", 0, 4) },
		func() ([]byte, api.Errno) { return d.Read("b", 0, 1) },
		func() ([]byte, api.Errno) { return d.Read("a", -1, 1) },
		func() ([]byte, api.Errno) { d.Fail(1); return d.Read("a", 0, 1) },
	} {
		if b, e := do(); len(b) != 0 || e == api.OK {
			t.Errorf("%d: %q, %d", i, b, e)
		}
	}
	for i, do := range []func() api.Errno{
		func() api.Errno { return d.Create("a") },
		func() api.Errno { return d.Write("a", 2, make([]byte, 9)) },
		func() api.Errno { return d.Write("a", -1, []byte("z")) },
		func() api.Errno { return d.Truncate("a", 11) },
		func() api.Errno { return d.Rename("a", "") },
		func() api.Errno { return d.Rename("b", "a") },
		func() api.Errno { return d.Remove("b") },
	} {
		if do() == api.OK {
			t.Errorf("%d: OK", i)
		}
		holds(t, d, "a=abc;")
		c := d.Copy()
		c.Crash([]byte{1, 255})
		holds(t, c, "a=abc;")
	}
}

func TestR3NothingIsShared(t *testing.T) {
	d := files(t, 1000, "a", "", "b", "bbb")
	room := []byte("in and spare room")
	in := room[:2]
	fine(t, d.Write("a", 0, in))
	fine(t, d.Write("a", 5, []byte("!")))
	bits := append([]byte{1, 255}, 77)[:2]
	c := d.Copy()
	c.Crash(bits)
	if string(room) != "in and spare room" || !bytes.Equal(bits[:3], []byte{1, 255, 77}) {
		t.Errorf("what was handed in is changed: %q, %v", room, bits[:3])
	}
	for i := range room {
		room[i] = '#'
	}
	want := "in\x00\x00\x00!"
	for _, e := range []*disk.Disk{d, c} {
		if got := text(e, "a"); got != want {
			t.Errorf("what was handed in is kept: %q", got)
		}
		out, _ := e.Read("a", 0, 2)
		_ = append(out, "########"...)
		out[0] = '#'
		if got := text(e, "a"); got != want {
			t.Errorf("what was told is kept: %q", got)
		}
	}
	d.Crash([]byte{0, 255})
	if got := text(d, "a"); got != want {
		t.Errorf("what was handed in is laid by: %q", got)
	}
	names := d.List()
	names[0] = "#"
	_ = append(names[:1], "#")
	if got := d.List(); !slices.Equal(got, []string{"a", "b"}) {
		t.Errorf("what was told is kept: %v", got)
	}
}

func TestR3NilAndEmptyAreOne(t *testing.T) {
	for _, none := range [][]byte{nil, {}} {
		d := files(t, 10, "a", "abc")
		fine(t, d.Write("a", 2, none))
		fine(t, d.Write("a", 9, none))
		fine(t, d.Create("b"))
		d.Crash(none)
		holds(t, d, "a=abc;")
	}
}

// The same calls tell the same, however the maps inside are gone through.
func TestR4Same(t *testing.T) {
	run := func() string {
		d := disk.New(5000)
		for _, name := range strings.Split("k q a z m b x c w d", " ") {
			d.Create(name)
			d.Write(name, 120, []byte(name+strings.Repeat("+", 20)))
		}
		d.Rename("q", "e")
		d.Rename("z", "k")
		d.Remove("m")
		d.Crash([]byte{11, 0x5a, 0xc3, 0x99})
		return strings.Join(d.List(), " ") + "\n" + whole(d)
	}
	first := run()
	for range 50 {
		if again := run(); again != first {
			t.Fatalf("%q, not %q", again, first)
		}
	}
}

// R5 names operations by their number: each call of one is just one.
func TestR5OneCallOneOperation(t *testing.T) {
	for _, x := range operations() {
		d := files(t, 5000, "a", strings.Repeat("a", 1000), "b", "B")
		for range 20 {
			d.Write("a", 100, make([]byte, 900))
			d.Rename("b", "b")
		}
		before := d.Ops()
		fine(t, x.do(d))
		if d.Ops() != before+1 {
			t.Errorf("%s: %d operations", x.what, d.Ops()-before)
		}
	}
}
