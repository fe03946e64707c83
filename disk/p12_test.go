package disk_test

import (
	"math"
	"slices"
	"strings"
	"testing"

	"pandect/api"
	"pandect/disk"
)

func TestP12Size(t *testing.T) {
	d := files(t, 1000, "a", "abc", "b", "")
	fine(t, d.Write("b", 200, []byte("x")))
	for _, x := range []struct {
		name string
		n    int64
		is   bool
	}{{"a", 3, true}, {"b", 201, true}, {"c", 0, false}, {"", 0, false}, {tooLong, 0, false}} {
		if n, is := d.Size(x.name); n != x.n || is != x.is {
			t.Errorf("%q: %d, %t", x.name, n, is)
		}
	}
}

func TestP12List(t *testing.T) {
	d := disk.New(0)
	if len(d.List()) != 0 {
		t.Errorf("%v", d.List())
	}
	for _, name := range []string{"b", "aa", "\xff", "a", "B", "ab", "\x00", "10", "9"} {
		fine(t, d.Create(name))
	}
	fine(t, d.Rename("b", "c"))
	fine(t, d.Remove("ab"))
	if got := d.List(); !slices.Equal(got, []string{"\x00", "10", "9", "B", "a", "aa", "c", "\xff"}) {
		t.Errorf("%q", got)
	}
}

func TestP12Fail(t *testing.T) {
	for n := 1; n <= 5; n++ {
		d := files(t, 100, "a", "A")
		d.Fail(n)
		for i := 1; i <= 7; i++ {
			want := api.OK
			if i == n {
				want = api.ErrIO
			}
			tells(t, d.Sync("a"), want)
		}
	}
	for _, none := range []int{0, -1, math.MinInt} {
		d := files(t, 100, "a", "A")
		d.Fail(1)
		d.Fail(none)
		for range 3 {
			fine(t, d.Sync("a"))
		}
	}
	// the last one holds, from where it is said
	d := files(t, 100, "a", "A")
	d.Fail(1)
	d.Fail(3)
	fine(t, d.Sync("a"))
	d.Fail(2)
	fine(t, d.Sync("a"))
	tells(t, d.Sync("a"), api.ErrIO)
	fine(t, d.Sync("a"))
	d.Fail(math.MaxInt)
	fine(t, d.Sync("a"))
	// what is refused counts too
	d.Fail(2)
	tells(t, d.Create(""), api.ErrArg)
	tells(t, d.Sync("a"), api.ErrIO)
}

func TestP12Ops(t *testing.T) {
	for i, x := range operations() {
		d := files(t, 100, "a", "A", "b", "B")
		before := d.Ops()
		if before != 7 {
			t.Errorf("%d, not 7", before)
		}
		fine(t, x.do(d))
		d.Fail(1)
		tells(t, x.do(d), api.ErrIO)
		d.Create("")
		d.Remove("none")
		d.Write("b", 99, []byte("xyz"))
		if d.Ops() != before+5 {
			t.Errorf("%d %s: %d", i, x.what, d.Ops())
		}
	}
}

func TestP12NoOperations(t *testing.T) {
	d := files(t, 100, "a", "A")
	before := d.Ops()
	d.Fail(1)
	d.Size("a")
	d.Size("")
	d.List()
	d.Ops()
	d.Copy()
	if d.Ops() != before {
		t.Errorf("%d, not %d", d.Ops(), before)
	}
	tells(t, d.Sync("a"), api.ErrIO)
	d.Fail(5)
	d.Crash(nil)
	if d.Ops() != before+1 {
		t.Errorf("%d, not %d", d.Ops(), before+1)
	}
}

func TestP12Copy(t *testing.T) {
	d := files(t, 20, "a", "aaaa", "b", "bbbb")
	fine(t, d.Write("a", 0, []byte("x")))
	fine(t, d.Rename("b", "c"))
	d.Fail(2)
	c := d.Copy()
	if c.Ops() != d.Ops() {
		t.Errorf("%d, not %d", c.Ops(), d.Ops())
	}
	holds(t, c, "a=xaaa;c=bbbb;")
	// the room, what fails, and what does not last yet come with it
	for _, e := range []*disk.Disk{d, c} {
		tells(t, e.Truncate("a", 17), api.ErrFull)
		tells(t, e.Truncate("a", 16), api.ErrIO)
		fine(t, e.Truncate("a", 16))
		fine(t, e.Truncate("a", 4))
		f := e.Copy()
		f.Crash(nil)
		holds(t, f, "a=aaaa;b=bbbb;")
		f = e.Copy()
		f.Crash([]byte{1, 1})
		holds(t, f, "a=xaaa;c=bbbb;")
	}
}

func TestP12CopiesGoTheirOwnWay(t *testing.T) {
	change := []func(d *disk.Disk){
		func(d *disk.Disk) { d.Write("a", 1, []byte("!")) },
		func(d *disk.Disk) { d.Truncate("a", 1) },
		func(d *disk.Disk) { d.Sync("a") },
		func(d *disk.Disk) { d.Create("n") },
		func(d *disk.Disk) { d.Rename("a", "b") },
		func(d *disk.Disk) { d.Remove("b") },
		func(d *disk.Disk) { d.SyncDir() },
		func(d *disk.Disk) { d.Crash([]byte{1, 255}) },
		func(d *disk.Disk) { d.Fail(1) },
	}
	for i, do := range change {
		for _, other := range []bool{false, true} {
			d := files(t, 100, "a", "aaaa", "b", "bbbb")
			fine(t, d.Write("a", 0, []byte("x")))
			fine(t, d.Rename("b", "c"))
			fine(t, d.Create("b"))
			c, ops := d.Copy(), d.Ops()
			if other {
				c, d = d, c
			}
			do(c)
			do(c)
			if d.Ops() != ops {
				t.Errorf("%d: %d operations, not %d", i, d.Ops(), ops)
			}
			holds(t, d, "a=xaaa;b=;c=bbbb;")
			fine(t, d.Write("a", 3, []byte("z")))
			d.Crash([]byte{0, 2})
			holds(t, d, "a=aaaz;b=bbbb;")
		}
	}
}

func TestP12OfANilDisk(t *testing.T) {
	var d *disk.Disk
	for _, x := range operations() {
		if got := x.do(d); got != api.ErrArg {
			t.Errorf("%s: %d", x.what, got)
		}
	}
	b, _ := d.Read("a", 0, 0)
	n, is := d.Size("a")
	d.Fail(1)
	d.Crash([]byte{1, 2, 3})
	if len(b) != 0 || n != 0 || is || len(d.List()) != 0 || d.Ops() != 0 || d.Copy() != nil {
		t.Errorf("%q, %d, %t, %v, %d, %v", b, n, is, d.List(), d.Ops(), d.Copy())
	}
}

// However much was laid by: what one lays by behind it, the other has not.
func TestP12CopiesLayByApart(t *testing.T) {
	for n := range 20 {
		d := files(t, 100, "a", "")
		for i := range n {
			fine(t, d.Write("a", int64(i), []byte("w")))
			fine(t, d.Rename("a", "a"))
		}
		c := d.Copy()
		fine(t, d.Write("a", int64(n), []byte("d")))
		fine(t, d.Create("d"))
		fine(t, c.Write("a", int64(n), []byte("c")))
		fine(t, c.Create("c"))
		same := strings.Repeat("w", n)
		d.Crash([]byte{byte(n + 1), 255, 255, 255})
		c.Crash([]byte{byte(n + 1), 255, 255, 255})
		holds(t, d, "a="+same+"d;d=;")
		holds(t, c, "a="+same+"c;c=;")
	}
}
