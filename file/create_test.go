package file_test

import (
	"math"
	"slices"
	"strings"
	"testing"

	"pandect/api"
	"pandect/disk"
	"pandect/file"
)

func TestP51Example(t *testing.T) {
	_, f := fresh(t, 1000)
	appends(t, f, 1, []byte("what happened"), 256)
}

func TestP51Create(t *testing.T) {
	if 2*api.Sector != slots {
		t.Fatal("the sectors are others than these tests'")
	}
	for _, name := range []string{"a", longest, "\x00", "\xff\xfe", "ä"} {
		d := disk.New(slots)
		f, e := file.Create(d, name)
		fine(t, e)
		if f.Name() != name || text(d, name) != noughts()+noughts() || len(d.List()) != 1 {
			t.Errorf("%q: %q, %q", name, f.Name(), text(d, name))
		}
		ends(t, f, slots)
		unheld(t, f, api.ErrForm)
		unread(t, f, slots, api.ErrForm)
	}
}

// Create is disk.Create and Truncate, no more: its name and its bytes do not
// last yet.
func TestP51CreateDoesTwoOperations(t *testing.T) {
	d, _ := fresh(t, 1000)
	if d.Ops() != 2 {
		t.Errorf("%d operations", d.Ops())
	}
	c := d.Copy()
	c.Crash(nil)
	if text(c, "f") != "-" {
		t.Error("its name lasts")
	}
	fine(t, d.SyncDir())
	d.Crash(nil)
	if text(d, "f") != "" {
		t.Errorf("its bytes last: %q", text(d, "f"))
	}
}

func TestP51CreateTellsTheDisksErrors(t *testing.T) {
	for _, bad := range []string{"", tooLong, strings.Repeat("n", 1000)} {
		d := disk.New(1000)
		uncreated(t, d, bad, api.ErrArg, 1)
		if len(d.List()) != 0 {
			t.Errorf("%q: %v", bad, d.List())
		}
	}
	uncreated(t, nil, "f", api.ErrArg, 0)
	uncreated(t, nil, "", api.ErrArg, 0)
	for _, room := range []int64{math.MinInt64, 0, 1, slots - 1} {
		d := disk.New(room)
		uncreated(t, d, "f", api.ErrFull, 3)
		if len(d.List()) != 0 {
			t.Errorf("%d: %v", room, d.List())
		}
	}
}

// A file that was there stays, whatever the error is.
func TestP51CreateOfWhatIsThere(t *testing.T) {
	d, f := fresh(t, 1000)
	appends(t, f, 1, []byte("one"), slots)
	fine(t, f.Hold(2, []byte("two")))
	was := text(d, "f")
	uncreated(t, d, "f", api.ErrMany, 1)
	d.Fail(1)
	uncreated(t, d, "f", api.ErrIO, 1)
	fine(t, d.Create("short"))
	uncreated(t, d, "short", api.ErrMany, 1)
	if text(d, "f") != was || text(d, "short") != "" {
		t.Errorf("%q, %q", text(d, "f"), text(d, "short"))
	}
}

func TestP51CreateFails(t *testing.T) {
	d := disk.New(1000)
	d.Fail(1)
	uncreated(t, d, "f", api.ErrIO, 1)
	d.Fail(2)
	uncreated(t, d, "f", api.ErrIO, 3) // it is removed again
	if len(d.List()) != 0 {
		t.Errorf("%v", d.List())
	}
	d.Fail(3)
	f, e := file.Create(d, "f")
	fine(t, e)
	tells(t, f.Sync(), api.ErrIO)
	ends(t, f, slots)
}

// uncreated: no file is told, by so many operations.
func uncreated(t *testing.T, d *disk.Disk, name string, want api.Errno, ops int) {
	t.Helper()
	was := d.Ops()
	if f, e := file.Create(d, name); f != nil || e != want || d.Ops()-was != ops {
		t.Errorf("%q: %v, %d, by %d operations; not %d, by %d", name, f, e, d.Ops()-was, want, ops)
	}
}

func TestP51Open(t *testing.T) {
	d, f := fresh(t, 1000)
	appends(t, f, 7, []byte("one"), 256)
	fine(t, f.Hold(3, []byte("three")))
	fine(t, f.Renamed(longest))
	was, ops := text(d, longest), d.Ops()
	o := opens(t, d, longest)
	if o.Name() != longest || d.Ops() != ops || text(d, longest) != was {
		t.Errorf("%q, %d operations", o.Name(), d.Ops()-ops)
	}
	ends(t, o, 268)
	reads(t, o, 256, 7, []byte("one"))
	held(t, o, 3, "three")
	appends(t, o, 8, nil, 268)
}

// Open is no operation of the disk: a Fail that is pending does not stop it.
func TestP51OpenWhereTheDiskFails(t *testing.T) {
	d, _ := fresh(t, 1000)
	d.Fail(1)
	o := opens(t, d, "f")
	tells(t, o.Sync(), api.ErrIO)
}

func TestP51OpenOfNone(t *testing.T) {
	d, f := fresh(t, 1000)
	for _, name := range []string{"", "g", "F", "f\x00", "ff", longest, tooLong} {
		unopened(t, d, name, api.ErrNone)
	}
	fine(t, f.Renamed("g"))
	unopened(t, d, "f", api.ErrNone)
	fine(t, d.Remove("g"))
	unopened(t, d, "g", api.ErrNone)
	unopened(t, nil, "f", api.ErrArg)
	unopened(t, nil, "", api.ErrArg)
	unopened(t, new(disk.Disk), "f", api.ErrNone)
}

func TestP51OpenOfAShortOne(t *testing.T) {
	d := disk.New(10000)
	fine(t, d.Create("f"))
	for _, size := range []int64{0, 1, 127, 128, 129, 255} {
		fine(t, d.Truncate("f", size))
		unopened(t, d, "f", api.ErrForm)
	}
	for _, size := range []int64{256, 257, 265, 5000} {
		fine(t, d.Truncate("f", size))
		ends(t, opens(t, d, "f"), size)
	}
}

func unopened(t *testing.T, d *disk.Disk, name string, want api.Errno) {
	t.Helper()
	if f, e := file.Open(d, name); f != nil || e != want {
		t.Errorf("%q: %v, %d; not %d", name, f, e, want)
	}
}

// What stands there does not have to say anything.
func TestP51OpenOfBytesThatSayNothing(t *testing.T) {
	d := disk.New(10000)
	fine(t, d.Create("f"))
	fine(t, d.Write("f", 0, drawn(300)))
	f := opens(t, d, "f")
	ends(t, f, 300)
	unheld(t, f, api.ErrForm)
	unread(t, f, slots, api.ErrForm)
	appends(t, f, 1, []byte("one"), 300)
	reads(t, f, 300, 1, []byte("one"))
	if s := text(d, "f"); s != string(drawn(300))+laid(1, []byte("one")) {
		t.Errorf("%q", s)
	}
}

func TestP51Renamed(t *testing.T) {
	d, f := fresh(t, 10000)
	appends(t, f, 1, []byte("one"), slots)
	other, e := file.Create(d, "other")
	fine(t, e)
	appends(t, other, 2, make([]byte, 3000), slots)
	for _, to := range []string{"g", "g", longest, "other", "f"} {
		was := f.Name()
		fine(t, f.Renamed(to))
		if _, is := d.Size(was); f.Name() != to || is && was != to {
			t.Errorf("%q to %q: %q, %v", was, to, f.Name(), d.List())
		}
		ends(t, f, 268)
		reads(t, f, slots, 1, []byte("one"))
	}
	if !slices.Equal(d.List(), []string{"f"}) {
		t.Errorf("%v", d.List())
	}
	appends(t, f, 2, nil, 268)
	fine(t, f.Hold(1, []byte("holds")))
	if text(d, "f") != noughts()+place(1, []byte("holds"))+laid(1, []byte("one"))+laid(2, nil) {
		t.Errorf("%q", text(d, "f"))
	}
}

func TestP51RenamedTellsTheDisksErrors(t *testing.T) {
	d, f := fresh(t, 1000)
	ops := d.Ops()
	tells(t, f.Renamed(""), api.ErrArg)
	tells(t, f.Renamed(tooLong), api.ErrArg)
	d.Fail(1)
	tells(t, f.Renamed("g"), api.ErrIO)
	if f.Name() != "f" || text(d, "f") == "-" || text(d, "g") != "-" || d.Ops()-ops != 3 {
		t.Errorf("%q, %v, %d", f.Name(), d.List(), d.Ops())
	}
	fine(t, d.Remove("f"))
	tells(t, f.Renamed("g"), api.ErrNone)
	tells(t, f.Renamed(""), api.ErrArg)
	if f.Name() != "f" {
		t.Errorf("%q", f.Name())
	}
}

// A new name lasts as soon as the disk's names do, not ahead of that.
func TestP51RenamedIsTheDisksRename(t *testing.T) {
	d, f := fresh(t, 1000)
	fine(t, f.Sync())
	fine(t, d.SyncDir())
	fine(t, f.Renamed("g"))
	c := d.Copy()
	c.Crash(nil)
	if !slices.Equal(c.List(), []string{"f"}) {
		t.Errorf("%v", c.List())
	}
	fine(t, d.SyncDir())
	d.Crash(nil)
	if !slices.Equal(d.List(), []string{"g"}) {
		t.Errorf("%v", d.List())
	}
}
