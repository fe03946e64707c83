package file_test

import (
	"bytes"
	"math"
	"testing"

	"pandect/api"
	"pandect/disk"
	"pandect/file"
)

func TestP51Append(t *testing.T) {
	d, f := fresh(t, 1<<16)
	want, at := noughts()+noughts(), int64(slots)
	offs := []int64{}
	bodies := [][]byte{nil, {}, []byte("one"), make([]byte, 100), drawn(128), drawn(3), drawn(4095), drawn(api.MaxBody), nil}
	for i, body := range bodies {
		ops := d.Ops()
		appends(t, f, byte(i*37), body, at)
		if d.Ops()-ops != 1 {
			t.Errorf("%d bytes: %d operations", len(body), d.Ops()-ops)
		}
		offs = append(offs, at)
		at += 9 + int64(len(body))
		want += laid(byte(i*37), body)
		if text(d, "f") != want {
			t.Fatalf("%d bytes are laid otherwise", len(body))
		}
	}
	for _, g := range []*file.File{f, opens(t, d, "f")} {
		for i, body := range bodies {
			reads(t, g, offs[i], byte(i*37), body)
		}
		ends(t, g, at)
	}
}

func TestP51AppendOfEachKind(t *testing.T) {
	_, f := fresh(t, 1<<16)
	for kind := range 256 {
		appends(t, f, byte(kind), []byte{byte(kind)}, slots+10*int64(kind))
	}
	for kind := range 256 {
		reads(t, f, slots+10*int64(kind), byte(kind), []byte{byte(kind)})
	}
}

// unappended: no record is laid, and all is as it was.
func unappended(t *testing.T, d *disk.Disk, f *file.File, body []byte, want api.Errno) {
	t.Helper()
	was, end := text(d, f.Name()), f.End()
	if at, e := f.Append(9, body); at != 0 || e != want {
		t.Errorf("%d bytes: %d, %d; not %d", len(body), at, e, want)
	}
	if text(d, f.Name()) != was {
		t.Errorf("%d bytes: something of them is there", len(body))
	}
	ends(t, f, end)
	unread(t, f, end, api.ErrForm)
}

func TestP51AppendOfTooMuch(t *testing.T) {
	d, f := fresh(t, 1<<20)
	appends(t, f, 1, []byte("one"), slots)
	for _, n := range []int{api.MaxBody + 1, api.MaxBody + 9, 1 << 16, 1 << 21} {
		unappended(t, d, f, make([]byte, n), api.ErrFull)
	}
	appends(t, f, 2, make([]byte, api.MaxBody), 268)
}

func TestP51AppendWithoutRoom(t *testing.T) {
	d, f := fresh(t, slots+9+5)
	unappended(t, d, f, make([]byte, 6), api.ErrFull)
	unappended(t, d, f, make([]byte, 4000), api.ErrFull)
	appends(t, f, 1, make([]byte, 5), slots)
	unappended(t, d, f, nil, api.ErrFull)
	fine(t, f.Hold(1, []byte("one"))) // its room is there
	held(t, f, 1, "one")
	reads(t, f, slots, 1, make([]byte, 5))
}

func TestP51AppendFails(t *testing.T) {
	d, f := fresh(t, 10000)
	appends(t, f, 1, []byte("one"), slots)
	d.Fail(1)
	unappended(t, d, f, []byte("two"), api.ErrIO)
	for range 3 {
		d.Fail(2)
		appends(t, f, 3, []byte("three"), f.End())
		unappended(t, d, f, []byte("four"), api.ErrIO)
	}
	reads(t, f, 268, 3, []byte("three"))
	was := f.End()
	fine(t, d.Remove("f"))
	unappended(t, d, f, []byte("five"), api.ErrNone)
	ends(t, f, was)
}

// So far behind the disk writes nothing: that is its error.
func TestP51AppendBeyondWhatTheDiskWrites(t *testing.T) {
	d, _ := fresh(t, 1<<25)
	fine(t, d.Truncate("f", most))
	f := opens(t, d, "f")
	appends(t, f, 1, []byte("last"), most)
	ops := d.Ops()
	if at, e := f.Append(1, nil); at != 0 || e != api.ErrArg || d.Ops()-ops != 1 {
		t.Errorf("%d, %d", at, e)
	}
	ends(t, f, most+13)
	reads(t, f, most, 1, []byte("last"))
	for _, off := range []int64{most - 1, most + 1, most + 12, most + 13} {
		unread(t, f, off, api.ErrForm)
	}
}

func TestP51ReadWhereNoneBegins(t *testing.T) {
	d, f := fresh(t, 1<<16)
	starts := map[int64]bool{}
	for _, n := range []int{3, 0, 300, 1, 4096, 0} {
		starts[f.End()] = true
		appends(t, f, 200, bytes.Repeat([]byte{0xEE}, n), f.End())
	}
	for off := int64(-3); off < f.End()+3; off++ {
		if !starts[off] {
			unread(t, f, off, api.ErrForm)
		}
	}
	for _, off := range []int64{math.MinInt64, -1 << 40, -256, most - 1, most, most + 1, 1 << 31, 1 << 32, 1<<32 + slots, 1 << 40, math.MaxInt64 - 4105, math.MaxInt64} {
		unread(t, f, off, api.ErrForm)
	}
	// a record that stands in the slots is none of the file's
	fine(t, d.Write("f", 0, []byte(laid(1, []byte("in a slot")))))
	fine(t, d.Write("f", 247, []byte(laid(1, nil))))
	unread(t, f, 0, api.ErrForm)
	unread(t, f, 247, api.ErrForm)
	fine(t, d.Write("f", slots, []byte(laid(1, []byte("!!!")))))
	reads(t, f, slots, 1, []byte("!!!"))
}

// Where none begins nothing is asked of the disk, so that it cannot fail.
func TestP51ReadWhereNoneCanBegin(t *testing.T) {
	d, f := fresh(t, 1000)
	appends(t, f, 1, []byte("one"), slots)
	d.Fail(1)
	for _, off := range []int64{-1, 0, slots - 1, 268, 269, 1 << 40} {
		unread(t, f, off, api.ErrForm)
	}
	unread(t, f, slots, api.ErrIO)
	reads(t, f, slots, 1, []byte("one"))
}

func TestP51ReadOfATurnedBit(t *testing.T) {
	d, f := fresh(t, 10000)
	appends(t, f, 1, []byte("body"), slots)
	appends(t, f, 2, []byte("behind"), 269)
	b := []byte(laid(1, []byte("body")))
	for i := range 8 * len(b) {
		b[i/8] ^= 1 << (i % 8)
		fine(t, d.Write("f", slots, b))
		unread(t, f, slots, api.ErrForm)
		reads(t, f, 269, 2, []byte("behind"))
		b[i/8] ^= 1 << (i % 8)
	}
	fine(t, d.Write("f", slots, b))
	reads(t, f, slots, 1, []byte("body"))
}

// The file itself ends ahead of what was appended: what is whole is read.
func TestP51ReadOfAFileThatWasCut(t *testing.T) {
	d, f := fresh(t, 10000)
	appends(t, f, 1, []byte("one"), slots)
	appends(t, f, 2, make([]byte, 500), 268)
	for size := int64(268 + 508); size >= slots; size-- {
		fine(t, d.Truncate("f", size))
		for _, g := range []*file.File{f, opens(t, d, "f")} {
			if size < 268 {
				unread(t, g, slots, api.ErrForm)
			} else {
				reads(t, g, slots, 1, []byte("one"))
			}
			unread(t, g, 268, api.ErrForm)
			unread(t, g, 300, api.ErrForm)
		}
	}
	fine(t, d.Remove("f"))
	unread(t, f, slots, api.ErrNone)
	unread(t, f, 255, api.ErrForm)
}

// Behind all that was ever written: it does not go back.
func TestP51EndDoesNotGoBack(t *testing.T) {
	d, f := fresh(t, 10000)
	fine(t, d.SyncDir())
	fine(t, f.Sync())
	appends(t, f, 1, []byte("one"), slots)
	d.Crash(nil)
	ends(t, f, 268)
	unread(t, f, slots, api.ErrForm)
	appends(t, f, 2, []byte("two"), 268)
	reads(t, f, 268, 2, []byte("two"))
	if s := text(d, "f"); s != string(make([]byte, 268))+laid(2, []byte("two")) {
		t.Errorf("%q", s)
	}
	g := opens(t, d, "f")
	fine(t, d.Truncate("f", 0))
	ends(t, f, 280)
	ends(t, g, 280)
}

// Two that are open of one file do not write over one another's records.
func TestP51EndIsBehindWhatOthersWrote(t *testing.T) {
	d, f := fresh(t, 10000)
	g := opens(t, d, "f")
	appends(t, f, 1, []byte("one"), slots)
	ends(t, g, 268)
	appends(t, g, 2, []byte("two"), 268)
	appends(t, f, 3, []byte("three"), 280)
	for _, h := range []*file.File{f, g} {
		reads(t, h, slots, 1, []byte("one"))
		reads(t, h, 268, 2, []byte("two"))
		reads(t, h, 280, 3, []byte("three"))
		ends(t, h, 294)
	}
	fine(t, d.Write("f", 300, []byte("torn")))
	appends(t, f, 4, nil, 304)
}

// What follows: what was appended and synced is read, behind any crash.
func TestP5WhatIsSyncedIsRead(t *testing.T) {
	d, f := fresh(t, 1<<16)
	fine(t, d.SyncDir())
	type one struct {
		at   int64
		kind byte
		body []byte
	}
	var synced []one
	for i := range 12 {
		for j := range 3 {
			body := drawn(i * (1 + 40*j))
			synced = append(synced, one{f.End(), byte(i), body})
			appends(t, f, byte(i), body, f.End())
		}
		fine(t, f.Sync())
		end := f.End()
		appends(t, f, 99, drawn(700), end)
		for seed := range 20 {
			c := d.Copy()
			c.Crash(drawn(seed))
			g := opens(t, c, "f")
			if g.End() < end {
				t.Errorf("it ends at %d, ahead of %d", g.End(), end)
			}
			for _, o := range synced {
				reads(t, g, o.at, o.kind, o.body)
			}
			if _, body, e := g.Read(end); e != api.ErrForm && (e != api.OK || !bytes.Equal(body, drawn(700))) {
				t.Errorf("half of a record is told: %d, %d bytes", e, len(body))
			}
			at := g.End()
			appends(t, g, 1, []byte("goes on"), at)
			reads(t, g, at, 1, []byte("goes on"))
		}
	}
}

// Sync is the file's bytes alone, and no more than one operation.
func TestP51Sync(t *testing.T) {
	d, f := fresh(t, 10000)
	appends(t, f, 1, []byte("one"), slots)
	fine(t, f.Hold(1, []byte("holds")))
	ops := d.Ops()
	fine(t, f.Sync())
	if d.Ops()-ops != 1 {
		t.Errorf("%d operations", d.Ops()-ops)
	}
	c := d.Copy()
	c.Crash([]byte{1}) // its name survives, nothing else that was not synced
	if text(c, "f") != text(d, "f") {
		t.Errorf("%q", text(c, "f"))
	}
	c = d.Copy()
	c.Crash(nil)
	if text(c, "f") != "-" {
		t.Error("its name lasts")
	}
	d.Fail(1)
	tells(t, f.Sync(), api.ErrIO)
	fine(t, f.Sync())
	fine(t, d.Remove("f"))
	tells(t, f.Sync(), api.ErrNone)
}
