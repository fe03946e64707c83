package file_test

import (
	"bytes"
	"math"
	"strings"
	"testing"

	"pandect/api"
	"pandect/disk"
	"pandect/file"
)

// Neither a nil File nor the zero one lies on a disk.
func TestP51OfANilFile(t *testing.T) {
	for _, f := range []*file.File{nil, {}} {
		for _, n := range []int{0, 1, 113, 114, 4096, 4097} {
			if at, e := f.Append(1, make([]byte, n)); at != 0 || e != api.ErrArg {
				t.Errorf("%d, %d", at, e)
			}
			tells(t, f.Hold(uint64(n), make([]byte, n)), api.ErrArg)
		}
		for _, off := range []int64{math.MinInt64, -1, 0, slots - 1, slots, math.MaxInt64} {
			unread(t, f, off, api.ErrArg)
		}
		unheld(t, f, api.ErrArg)
		tells(t, f.Sync(), api.ErrArg)
		for _, to := range []string{"", "g", tooLong} {
			tells(t, f.Renamed(to), api.ErrArg)
		}
		if f.End() != 0 || f.Name() != "" {
			t.Errorf("%d, %q", f.End(), f.Name())
		}
	}
}

// asked does all that can be asked with these arguments.
func asked(d *disk.Disk, f *file.File, name string, n int64, b []byte) {
	file.Create(d, name)
	file.Open(d, name)
	f.Append(byte(n), b)
	f.Read(n)
	f.Hold(uint64(n), b)
	f.Held()
	f.Sync()
	f.End()
	f.Name()
	f.Renamed(name)
}

func TestR1NoPanic(t *testing.T) {
	for _, room := range []int64{math.MinInt64, slots, 1000, math.MaxInt64} {
		d := disk.New(room)
		f, _ := file.Create(d, "f")
		for _, name := range []string{"", "f", longest, tooLong, "\xff\x00", strings.Repeat("n", 1<<16)} {
			for _, n := range []int64{math.MinInt64, -1, 0, 1, 255, 256, 257, most, most + 1, math.MaxInt64} {
				for _, b := range [][]byte{nil, {}, {255}, make([]byte, 4096), make([]byte, 5000)} {
					asked(d, f, name, n, b)
					asked(nil, f, name, n, b)
					asked(d, nil, name, n, b)
					asked(d, &file.File{}, name, n, b)
				}
			}
		}
	}
}

func TestR3WhatIsHandedInIsNeitherChangedNorKept(t *testing.T) {
	d, f := fresh(t, 10000)
	room := []byte("in and spare room")
	appends(t, f, 1, room[:2], slots)
	fine(t, f.Hold(1, room[:2]))
	if string(room) != "in and spare room" {
		t.Errorf("what was handed in is changed: %q", room)
	}
	for i := range room {
		room[i] = '#'
	}
	reads(t, f, slots, 1, []byte("in"))
	held(t, f, 1, "in")
	if text(d, "f") != noughts()+place(1, []byte("in"))+laid(1, []byte("in")) {
		t.Errorf("%q", text(d, "f"))
	}
}

func TestR3WhatIsToldIsNew(t *testing.T) {
	d, f := fresh(t, 10000)
	appends(t, f, 1, []byte("one"), slots)
	appends(t, f, 2, []byte("two"), 268)
	fine(t, f.Hold(1, []byte("holds")))
	was := text(d, "f")
	for range 2 {
		_, body, _ := f.Read(slots)
		_, state, _ := f.Held()
		for _, told := range [][]byte{body, state} {
			_ = append(told, "########"...)
			clear(told[:cap(told)])
		}
	}
	reads(t, f, slots, 1, []byte("one"))
	reads(t, f, 268, 2, []byte("two"))
	held(t, f, 1, "holds")
	if text(d, "f") != was {
		t.Errorf("%q", text(d, "f"))
	}
}

// What is told goes by the disk and by what was done: asking changes nothing,
// and the same on two disks tells the same.
func TestR4Same(t *testing.T) {
	d, f := fresh(t, 10000)
	c, g := fresh(t, 10000)
	for i := range 30 {
		body := drawn(i)
		for range i % 4 {
			f.Read(int64(slots + i))
			f.Held()
			f.End()
			f.Name()
			f.Hold(uint64(i), make([]byte, 200))
			f.Append(1, make([]byte, 5000))
		}
		appends(t, f, byte(i), body, g.End())
		appends(t, g, byte(i), bytes.Clone(body), g.End())
		fine(t, f.Hold(uint64(i), body))
		fine(t, g.Hold(uint64(i), body))
		if text(d, "f") != text(c, "f") || f.End() != g.End() {
			t.Fatalf("%d: %d, %d", i, f.End(), g.End())
		}
	}
}
