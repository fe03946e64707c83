package disk_test

import (
	"strings"
	"testing"

	"pandect/api"
	"pandect/disk"
)

// crashes does the same on a new disk for each of bits, and holds what is
// left against what is wanted: twice, since what is left lasts then.
func crashes(t *testing.T, do func(d *disk.Disk), wants map[string]string) {
	t.Helper()
	for bits, want := range wants {
		d := files(t, 10000, "a", "aaaa", "b", "bbbb")
		do(d)
		d.Crash([]byte(bits))
		if got := whole(d); got != want {
			t.Errorf("%q: %q, not %q", bits, got, want)
		}
		d.Crash([]byte("\xff\xff\xff\xff"))
		if got := whole(d); got != want {
			t.Errorf("%q: it does not last: %q, not %q", bits, got, want)
		}
	}
}

func TestP13Names(t *testing.T) {
	crashes(t, func(d *disk.Disk) {
		d.Create("c")
		d.Rename("a", "d")
		d.Rename("b", "b")
		d.Remove("b")
		d.Rename("c", "d")
	}, map[string]string{
		"":     "a=aaaa;b=bbbb;",
		"\x00": "a=aaaa;b=bbbb;",
		"\x01": "a=aaaa;b=bbbb;c=;",
		"\x02": "b=bbbb;c=;d=aaaa;",
		"\x03": "b=bbbb;c=;d=aaaa;",
		"\x04": "c=;d=aaaa;",
		"\x05": "d=;",
		"\x06": "a=aaaa;b=bbbb;",
		"\xfb": "d=;",
		"\xff": "b=bbbb;c=;d=aaaa;",
	})
}

func TestP13ManyNames(t *testing.T) {
	const letters = "0123456789abcdef"
	name := func(i int) string { return letters[i/256:i/256+1] + letters[i/16%16:i/16%16+1] + letters[i%16:i%16+1] }
	for _, x := range []struct{ made, bits, want int }{{255, 255, 255}, {254, 255, 0}, {256, 255, 255}, {300, 255, 255}, {99, 250, 50}} {
		d := disk.New(0)
		for i := range x.made {
			fine(t, d.Create(name(i)))
		}
		d.Crash([]byte{byte(x.bits)})
		if got := len(d.List()); got != x.want {
			t.Errorf("%v: %d", x, got)
		}
	}
}

func TestP13RefusedNamesAreNotCounted(t *testing.T) {
	crashes(t, func(d *disk.Disk) {
		d.Create("a")
		d.Create("")
		d.Remove("none")
		d.Rename("a", "")
		d.Fail(1)
		d.Remove("a")
		d.Create("c")
	}, map[string]string{
		"":     "a=aaaa;b=bbbb;",
		"\x01": "a=aaaa;b=bbbb;c=;",
		"\x02": "a=aaaa;b=bbbb;",
	})
}

func TestP13Bytes(t *testing.T) {
	crashes(t, func(d *disk.Disk) {
		d.Write("b", 1, []byte("W"))
		d.Truncate("b", 2)
		d.Write("b", 3, []byte("X"))
		d.Write("a", 0, []byte("YY"))
		d.Write("a", 1, []byte("ZZ"))
	}, map[string]string{
		"":         "a=aaaa;b=bbbb;",
		"\x00":     "a=aaaa;b=bbbb;",
		"\x00\x00": "a=aaaa;b=bbbb;",
		"\x00\x01": "a=YYaa;b=bbbb;",
		"\x00\x02": "a=aZZa;b=bbbb;",
		"\x00\x03": "a=YZZa;b=bbbb;",
		"\x00\x04": "a=aaaa;b=bWbb;",
		"\x00\x08": "a=aaaa;b=bb;",
		"\x00\x10": "a=aaaa;b=bbbX;",
		"\x00\x18": "a=aaaa;b=bb\x00X;",
		"\x00\x1f": "a=YZZa;b=bW\x00X;",
		"\x07\xe0": "a=aaaa;b=bbbb;",
	})
}

func TestP13RefusedBytesAreNotCounted(t *testing.T) {
	crashes(t, func(d *disk.Disk) {
		d.Write("a", 1, nil)
		d.Write("a", 9, []byte{})
		d.Write("a", -1, []byte("x"))
		d.Truncate("a", -1)
		d.Truncate("a", 10001)
		d.Write("a", 10000, []byte("x"))
		d.Fail(1)
		d.Write("a", 0, []byte("x"))
		d.Read("a", 0, 1)
		d.Write("a", 0, []byte("Y"))
	}, map[string]string{
		"\x00\x01": "a=Yaaa;b=bbbb;",
		"\x00\x02": "a=aaaa;b=bbbb;",
	})
}

// A Truncate to the size that is seen counts as any other: ahead of it, what
// lasts may have another size.
func TestP13TruncateToTheSameSize(t *testing.T) {
	crashes(t, func(d *disk.Disk) {
		d.Truncate("a", 1)
		d.Truncate("a", 1)
		d.Write("a", 0, []byte("Z"))
	}, map[string]string{
		"\x00\x02": "a=a;b=bbbb;",
		"\x00\x04": "a=Zaaa;b=bbbb;",
	})
}

func TestP13BytesUnderAnotherName(t *testing.T) {
	crashes(t, func(d *disk.Disk) {
		d.Write("a", 0, []byte("1"))
		d.Rename("a", "c")
		d.Write("c", 1, []byte("2"))
		d.Write("b", 0, []byte("3"))
	}, map[string]string{
		// the order is that of the names that are left: a, b or b, c
		"\x00\x03": "a=12aa;b=bbbb;",
		"\x00\x04": "a=aaaa;b=3bbb;",
		"\x01\x01": "b=3bbb;c=aaaa;",
		"\x01\x06": "b=bbbb;c=12aa;",
	})
}

func TestP13FilesWithoutANameAreNotCounted(t *testing.T) {
	crashes(t, func(d *disk.Disk) {
		d.Write("a", 0, []byte("1"))
		d.Write("b", 0, []byte("2"))
		d.Rename("b", "a")
	}, map[string]string{
		"\x00\x01": "a=1aaa;b=bbbb;",
		"\x00\x02": "a=aaaa;b=2bbb;",
		"\x01\x01": "a=2bbb;",
		"\x01\x02": "a=bbbb;",
	})
	crashes(t, func(d *disk.Disk) {
		d.Create("A")
		d.Write("A", 0, []byte("new"))
		d.Write("a", 0, []byte("1"))
	}, map[string]string{
		"\x00\x01": "a=1aaa;b=bbbb;",
		"\x01\x01": "A=new;a=aaaa;b=bbbb;",
		"\x01\x02": "A=;a=1aaa;b=bbbb;",
	})
}

// A file that was removed and comes back has what was done to it ahead.
func TestP13RemovedAndBack(t *testing.T) {
	crashes(t, func(d *disk.Disk) {
		d.Write("a", 0, []byte("1"))
		d.Remove("a")
		d.Create("a")
		d.Write("a", 0, []byte("new"))
		d.Sync("a")
	}, map[string]string{
		"\x00":     "a=aaaa;b=bbbb;",
		"\x00\x01": "a=1aaa;b=bbbb;",
		"\x01\xff": "b=bbbb;",
		"\x02":     "a=new;b=bbbb;",
	})
}

func TestP13Sectors(t *testing.T) {
	nought, x := func(n int) string { return strings.Repeat("\x00", n) }, func(n int) string { return strings.Repeat("x", n) }
	for _, c := range []struct {
		off, n int
		bits   string
		want   string
	}{
		{0, 128, "\x00\x01", x(128)}, {0, 128, "\x00\x02", ""},
		{0, 129, "\x00\x01", x(128)}, {0, 129, "\x00\x02", nought(128) + x(1)}, {0, 129, "\x00\x03", x(129)},
		{127, 2, "\x00\x01", nought(127) + x(1)}, {127, 2, "\x00\x02", nought(128) + x(1)},
		{128, 128, "\x00\x01", nought(128) + x(128)}, {1, 127, "\x00\x01", nought(1) + x(127)},
		{100, 300, "\x00\x05", nought(100) + x(28) + nought(128) + x(128)},
		{100, 300, "\x00\x08", nought(384) + x(16)},
		{0, 1280, "\x00\x00\x01", nought(1024) + x(128)},
		{0, 1280, "\x00\x00\x02", nought(1152) + x(128)},
		{0, 1280, "\x00\x80\x00", nought(896) + x(128)},
		{0, 1280, "\x00\x81\x00\xff", x(128) + nought(768) + x(128)},
	} {
		d := files(t, 10000, "a", "")
		fine(t, d.Write("a", int64(c.off), []byte(x(c.n))))
		d.Crash([]byte(c.bits))
		if got := text(d, "a"); got != c.want {
			t.Errorf("%d bytes at %d, %q: %d bytes: %q", c.n, c.off, c.bits, len(got), got)
		}
	}
	// a Truncate is one, however long; pieces are counted over all files
	d := files(t, 10000, "a", "", "b", "")
	fine(t, d.Truncate("a", 1000))
	fine(t, d.Write("a", 0, []byte(x(256))))
	fine(t, d.Write("b", 0, []byte("b")))
	d.Crash([]byte{0, 1 | 4 | 8})
	if text(d, "a") != nought(128)+x(128)+nought(744) || text(d, "b") != "b" {
		t.Errorf("%q", whole(d))
	}
}

func TestP13NoFailIsPending(t *testing.T) {
	d := files(t, 100, "a", "A")
	before := d.Ops()
	d.Fail(1)
	d.Crash(nil)
	fine(t, d.Sync("a"))
	d.Fail(2)
	fine(t, d.Sync("a"))
	d.Crash([]byte{1})
	fine(t, d.Sync("a"))
	if d.Ops() != before+3 {
		t.Errorf("Ops goes on: %d", d.Ops())
	}
}

func TestP13Example(t *testing.T) {
	d := disk.New(100)
	fine(t, d.Create("a"))
	fine(t, d.Write("a", 0, []byte("x")))
	c := d.Copy()
	d.Crash(nil)
	holds(t, d, "")
	fine(t, c.SyncDir())
	c.Crash(nil)
	holds(t, c, "a=;")
	tells(t, d.Write("a", 0, []byte("x")), api.ErrNone)
}
