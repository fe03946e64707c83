package disk_test

import (
	"math"
	"strings"
	"testing"

	"pandect/api"
	"pandect/disk"
)

func TestP11New(t *testing.T) {
	for _, room := range []int64{math.MinInt64, -1, 0} {
		d := disk.New(room)
		if len(d.List()) != 0 || d.Ops() != 0 {
			t.Errorf("%d: %v, %d", room, d.List(), d.Ops())
		}
		fine(t, d.Create("a"))
		tells(t, d.Write("a", 0, []byte("x")), api.ErrFull)
		tells(t, d.Truncate("a", 1), api.ErrFull)
		fine(t, d.Truncate("a", 0))
	}
	d := disk.New(math.MaxInt64)
	fine(t, d.Create("a"))
	fine(t, d.Write("a", 3, []byte("x")))
}

func TestP11NamesThatMayNotBe(t *testing.T) {
	for _, bad := range []string{"", tooLong, strings.Repeat("n", 1000)} {
		d := files(t, 100, "a", "A")
		_, e := d.Read(bad, 0, 0)
		for i, got := range []api.Errno{d.Create(bad), d.Write(bad, 0, nil), e, d.Truncate(bad, 0), d.Sync(bad), d.Rename(bad, "a"), d.Rename("a", bad), d.Remove(bad)} {
			if got != api.ErrArg {
				t.Errorf("%q, %d: %d", bad, i, got)
			}
		}
		// ahead of ErrNone
		tells(t, d.Rename("none", bad), api.ErrArg)
		holds(t, d, "a=A;")
	}
	d := disk.New(100)
	for _, good := range []string{"a", longest, "\x00", "\xff\xfe", "ä", " "} {
		fine(t, d.Create(good))
		fine(t, d.Write(good, 0, []byte(".")))
	}
}

func TestP11NumbersThatMayNotBe(t *testing.T) {
	d := files(t, 100, "a", "A")
	for _, bad := range []int64{-1, math.MinInt64, most + 1, math.MaxInt64} {
		// a name that is not there: the numbers are looked at first
		for _, name := range []string{"a", "none"} {
			_, byOff := d.Read(name, bad, 0)
			_, byLength := d.Read(name, 0, int(bad))
			for i, got := range []api.Errno{d.Write(name, bad, []byte("x")), d.Write(name, bad, nil), byOff, byLength, d.Truncate(name, bad)} {
				if got != api.ErrArg {
					t.Errorf("%q, %d, %d: %d", name, bad, i, got)
				}
			}
		}
	}
	holds(t, d, "a=A;")
	_, byOff := d.Read("a", most, 0)
	_, byLength := d.Read("a", 0, most)
	tells(t, byOff, api.ErrForm)
	tells(t, byLength, api.ErrForm)
	tells(t, d.Write("a", most, []byte("x")), api.ErrFull)
	tells(t, d.Truncate("a", most), api.ErrFull)
	d = files(t, 2*most, "a", "A")
	fine(t, d.Write("a", most, []byte("x")))
	b, e := d.Read("a", most, 1)
	if n, _ := d.Size("a"); n != most+1 || string(b) != "x" || e != api.OK {
		t.Errorf("%d, %q, %d", n, b, e)
	}
	fine(t, d.Truncate("a", most))
	b, e = d.Read("a", 0, most)
	if n, _ := d.Size("a"); n != most || len(b) != most || e != api.OK {
		t.Errorf("%d, %d, %d", n, len(b), e)
	}
}

func TestP11NotThere(t *testing.T) {
	d := files(t, 100, "a", "A")
	_, e := d.Read("b", 0, 0)
	for i, got := range []api.Errno{d.Write("b", 0, []byte("x")), d.Write("b", 0, nil), e, d.Truncate("b", 0), d.Sync("b"), d.Rename("b", "a"), d.Rename("b", "b"), d.Remove("b")} {
		if got != api.ErrNone {
			t.Errorf("%d: %d", i, got)
		}
	}
	// ahead of ErrFull and ErrForm
	tells(t, d.Write("b", 0, make([]byte, 101)), api.ErrNone)
	tells(t, d.Truncate("b", 101), api.ErrNone)
	_, e = d.Read("b", 0, 9)
	tells(t, e, api.ErrNone)
	holds(t, d, "a=A;")
}

func TestP11Create(t *testing.T) {
	d := files(t, 100, "a", "A")
	tells(t, d.Create("a"), api.ErrMany)
	holds(t, d, "a=A;")
	fine(t, d.Create("b"))
	tells(t, d.Create("b"), api.ErrMany)
	holds(t, d, "a=A;b=;")
	// a name that was given back is free, and its bytes do not come with it
	fine(t, d.Remove("a"))
	fine(t, d.Create("a"))
	holds(t, d, "a=;b=;")
	fine(t, d.Rename("b", "c"))
	fine(t, d.Create("b"))
	holds(t, d, "a=;b=;c=;")
}

func TestP11Write(t *testing.T) {
	for _, x := range []struct {
		off     int64
		b, want string
	}{
		{0, "X", "Xbc"}, {1, "X", "aXc"}, {2, "XY", "abXY"}, {3, "X", "abcX"},
		{5, "X", "abc\x00\x00X"}, {0, "WXYZ", "WXYZ"}, {0, "", "abc"}, {9, "", "abc"}, {most, "", "abc"},
		{130, "X", "abc" + strings.Repeat("\x00", 127) + "X"},
	} {
		d := files(t, 1000, "a", "abc")
		fine(t, d.Write("a", x.off, []byte(x.b)))
		if got := text(d, "a"); got != x.want {
			t.Errorf("%d, %q: %q", x.off, x.b, got)
		}
	}
	d := files(t, 0, "a", "")
	fine(t, d.Write("a", 7, []byte{}))
	holds(t, d, "a=;")
}

func TestP11WriteOverSectors(t *testing.T) {
	for _, size := range []int{127, 128, 129, 256, 257, 1000} {
		for _, off := range []int64{0, 1, 127, 128, 129, 300} {
			var b []byte
			for i := range size {
				b = append(b, byte(i*7+1))
			}
			d := files(t, 10000, "a", "")
			fine(t, d.Write("a", off, b))
			if want := strings.Repeat("\x00", int(off)) + string(b); text(d, "a") != want {
				t.Errorf("%d bytes at %d", size, off)
			}
		}
	}
}

func TestP11Read(t *testing.T) {
	d := files(t, 100, "a", "abcdef", "b", "")
	for _, x := range []struct {
		name string
		off  int64
		n    int
		want string
		e    api.Errno
	}{
		{"a", 0, 6, "abcdef", api.OK}, {"a", 2, 3, "cde", api.OK}, {"a", 5, 1, "f", api.OK},
		{"a", 0, 0, "", api.OK}, {"a", 6, 0, "", api.OK}, {"b", 0, 0, "", api.OK},
		{"a", 0, 7, "", api.ErrForm}, {"a", 6, 1, "", api.ErrForm}, {"a", 7, 0, "", api.ErrForm},
		{"b", 1, 0, "", api.ErrForm}, {"b", 0, 1, "", api.ErrForm},
	} {
		if b, e := d.Read(x.name, x.off, x.n); string(b) != x.want || e != x.e {
			t.Errorf("%q, %d, %d: %q, %d", x.name, x.off, x.n, b, e)
		}
	}
}

func TestP11Truncate(t *testing.T) {
	d := files(t, 10, "a", "abcdef")
	fine(t, d.Truncate("a", 6))
	holds(t, d, "a=abcdef;")
	fine(t, d.Truncate("a", 2))
	holds(t, d, "a=ab;")
	// what was cut off does not come back
	fine(t, d.Truncate("a", 5))
	holds(t, d, "a=ab\x00\x00\x00;")
	fine(t, d.Truncate("a", 1))
	fine(t, d.Write("a", 4, []byte("z")))
	holds(t, d, "a=a\x00\x00\x00z;")
	fine(t, d.Truncate("a", 10))
	tells(t, d.Truncate("a", 11), api.ErrFull)
	holds(t, d, "a=a\x00\x00\x00z\x00\x00\x00\x00\x00;")
	fine(t, d.Truncate("a", 0))
	holds(t, d, "a=;")
}

func TestP11Room(t *testing.T) {
	d := files(t, 10, "a", "aaaa", "b", "bbbb")
	tells(t, d.Write("a", 4, []byte("xyz")), api.ErrFull)
	tells(t, d.Write("a", 7, []byte("x")), api.ErrFull)
	tells(t, d.Truncate("b", 7), api.ErrFull)
	holds(t, d, "a=aaaa;b=bbbb;")
	fine(t, d.Write("a", 4, []byte("xy")))
	tells(t, d.Truncate("b", 5), api.ErrFull)
	// all over again asks for no room
	fine(t, d.Write("b", 0, []byte("BBBB")))
	fine(t, d.Truncate("b", 4))
	holds(t, d, "a=aaaaxy;b=BBBB;")
	// what is not seen any more has no part in it, synced or not
	fine(t, d.Truncate("a", 3))
	fine(t, d.Truncate("b", 7))
	fine(t, d.Remove("a"))
	fine(t, d.Truncate("b", 10))
	fine(t, d.Create("c"))
	tells(t, d.Truncate("c", 1), api.ErrFull)
	fine(t, d.Rename("c", "b"))
	fine(t, d.Truncate("b", 10))
	fine(t, d.Rename("b", "b"))
	tells(t, d.Truncate("b", 11), api.ErrFull)
	fine(t, d.Rename("b", "d"))
	tells(t, d.Truncate("d", 11), api.ErrFull)
}

func TestP11RoomBehindACrash(t *testing.T) {
	d := files(t, 10, "a", "aaaaaa", "b", "bb")
	fine(t, d.Truncate("b", 4))
	fine(t, d.Sync("b"))
	d.Crash(nil)
	tells(t, d.Truncate("a", 7), api.ErrFull)
	fine(t, d.Remove("a"))
	fine(t, d.Write("b", 4, []byte("BBBBBB")))
	fine(t, d.Sync("b"))
	// the crash brings "a" back, and with it more bytes than there is room for
	d.Crash(nil)
	holds(t, d, "a=aaaaaa;b=bb\x00\x00BBBBBB;")
	tells(t, d.Write("a", 6, []byte("x")), api.ErrFull)
	tells(t, d.Truncate("a", 7), api.ErrFull)
	fine(t, d.Write("a", 5, []byte("x")))
	fine(t, d.Truncate("a", 5))
	tells(t, d.Truncate("a", 6), api.ErrFull)
	fine(t, d.Truncate("b", 0))
	fine(t, d.Truncate("a", 10))
	tells(t, d.Truncate("a", 11), api.ErrFull)
}

func TestP11Sync(t *testing.T) {
	d := files(t, 100, "a", "a", "b", "b")
	fine(t, d.Write("a", 1, []byte("1")))
	fine(t, d.Write("b", 1, []byte("1")))
	fine(t, d.Sync("a"))
	fine(t, d.Write("a", 2, []byte("2")))
	d.Crash(nil)
	holds(t, d, "a=a1;b=b;")
	// the bytes last under whatever name; the name does not
	fine(t, d.Rename("a", "c"))
	fine(t, d.Truncate("c", 1))
	fine(t, d.Sync("c"))
	d.Crash(nil)
	holds(t, d, "a=a;b=b;")
}

func TestP11Rename(t *testing.T) {
	d := files(t, 100, "a", "A", "b", "B")
	fine(t, d.Rename("a", "c"))
	holds(t, d, "b=B;c=A;")
	tells(t, d.Rename("a", "c"), api.ErrNone)
	fine(t, d.Rename("c", "b"))
	holds(t, d, "b=A;")
	fine(t, d.Rename("b", "b"))
	holds(t, d, "b=A;")
	fine(t, d.Rename("b", longest))
	holds(t, d, longest+"=A;")
	tells(t, d.Rename(longest, tooLong), api.ErrArg)
	tells(t, d.Rename(longest, ""), api.ErrArg)
	holds(t, d, longest+"=A;")
	fine(t, d.Write(longest, 1, []byte("!")))
	holds(t, d, longest+"=A!;")
}

func TestP11Remove(t *testing.T) {
	d := files(t, 100, "a", "A", "b", "B")
	fine(t, d.Remove("a"))
	tells(t, d.Remove("a"), api.ErrNone)
	tells(t, d.Write("a", 0, []byte("x")), api.ErrNone)
	holds(t, d, "b=B;")
}

func TestP11SyncDir(t *testing.T) {
	for _, x := range []struct{ what, want string }{
		{"create", "a=A;b=B;new=;"}, {"rename", "b=A;"}, {"remove", "b=B;"},
	} {
		d := files(t, 100, "a", "A", "b", "B")
		switch x.what {
		case "create":
			fine(t, d.Create("new"))
		case "rename":
			fine(t, d.Rename("a", "b"))
		case "remove":
			fine(t, d.Remove("a"))
		}
		fine(t, d.SyncDir())
		d.Crash(nil)
		holds(t, d, x.want)
	}
	// names only
	d := files(t, 100, "a", "A")
	fine(t, d.Write("a", 0, []byte("z")))
	fine(t, d.SyncDir())
	d.Crash(nil)
	holds(t, d, "a=A;")
}

func TestP11FailsAhead(t *testing.T) {
	for _, x := range operations() {
		d := files(t, 100, "a", "AA", "b", "B")
		fine(t, d.Write("a", 0, []byte("u")))
		fine(t, d.Create("c"))
		before := d.Ops()
		d.Fail(1)
		tells(t, x.do(d), api.ErrIO)
		if d.Ops() != before+1 {
			t.Errorf("%s: it counts too", x.what)
		}
		holds(t, d, "a=uA;b=B;c=;")
		// nothing came to last either, and nothing was laid by
		c := d.Copy()
		c.Crash(nil)
		holds(t, c, "a=AA;b=B;")
		d.Crash([]byte{1, 255})
		holds(t, d, "a=uA;b=B;c=;")
	}
	// ahead of arguments that may not be, and of files that are not there
	d := disk.New(0)
	for i, do := range []func() api.Errno{
		func() api.Errno { return d.Create("") },
		func() api.Errno { return d.Write("", -1, nil) },
		func() api.Errno { _, e := d.Read("none", 0, -1); return e },
		func() api.Errno { return d.Truncate("none", 0) },
		func() api.Errno { return d.Rename("none", "") },
	} {
		d.Fail(1)
		if got := do(); got != api.ErrIO {
			t.Errorf("%d: %d", i, got)
		}
	}
}
