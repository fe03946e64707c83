package file_test

import (
	"math"
	"testing"

	"pandect/api"
)

func TestP51Hold(t *testing.T) {
	d, f := fresh(t, 1000)
	appends(t, f, 1, []byte("one"), slots)
	behind := laid(1, []byte("one"))
	places := [2]string{noughts(), noughts()}
	for _, gen := range []uint64{0, 1, 2, 3, 4, 7, 256, 1<<32 + 1, 1 << 63, math.MaxUint64 - 1, math.MaxUint64} {
		body := drawn(int(gen % 114))
		ops := d.Ops()
		fine(t, f.Hold(gen, body))
		if d.Ops()-ops != 1 {
			t.Errorf("%d: %d operations", gen, d.Ops()-ops)
		}
		places[gen%2] = place(gen, body)
		if text(d, "f") != places[0]+places[1]+behind {
			t.Errorf("%d is laid otherwise", gen)
		}
		held(t, f, gen, string(body))
		held(t, opens(t, d, "f"), gen, string(body))
		ends(t, f, 268)
	}
	reads(t, f, slots, 1, []byte("one"))
}

// A generation that is less takes its place too, but does not hold beside a
// greater one in the other place.
func TestP51HoldOfLess(t *testing.T) {
	_, f := fresh(t, 1000)
	fine(t, f.Hold(8, []byte("eight")))
	fine(t, f.Hold(5, []byte("five")))
	held(t, f, 8, "eight")
	fine(t, f.Hold(2, []byte("two")))
	held(t, f, 5, "five")
	fine(t, f.Hold(1, nil))
	held(t, f, 2, "two")
	fine(t, f.Hold(2, []byte("again")))
	held(t, f, 2, "again")
}

func TestP51HoldOfTooMuch(t *testing.T) {
	d, f := fresh(t, 1000)
	fine(t, f.Hold(1, make([]byte, 113)))
	was, ops := text(d, "f"), d.Ops()
	for _, n := range []int{114, 128, 256, 113 + 256, 1 << 16} {
		for gen := range uint64(4) {
			tells(t, f.Hold(gen, make([]byte, n)), api.ErrFull)
		}
	}
	if text(d, "f") != was || d.Ops() != ops {
		t.Errorf("%q, %d operations", text(d, "f"), d.Ops()-ops)
	}
	held(t, f, 1, string(make([]byte, 113)))
}

func TestP51HoldFails(t *testing.T) {
	d, f := fresh(t, 1000)
	fine(t, f.Hold(1, []byte("one")))
	for gen := range uint64(4) {
		was := text(d, "f")
		d.Fail(1)
		tells(t, f.Hold(gen, []byte("other")), api.ErrIO)
		if text(d, "f") != was {
			t.Errorf("%d: %q", gen, text(d, "f"))
		}
	}
	held(t, f, 1, "one")
	fine(t, d.Remove("f"))
	tells(t, f.Hold(2, nil), api.ErrNone)
	tells(t, f.Hold(2, make([]byte, 114)), api.ErrFull)
}

func TestP51HeldTellsTheDisksErrors(t *testing.T) {
	d, f := fresh(t, 1000)
	fine(t, f.Hold(1, []byte("one")))
	d.Fail(1)
	unheld(t, f, api.ErrIO)
	held(t, f, 1, "one")
	fine(t, d.Truncate("f", 255))
	unheld(t, f, api.ErrForm)
	fine(t, d.Remove("f"))
	unheld(t, f, api.ErrNone)
}

// One place that is spoiled leaves the other one.
func TestP51HeldOfOneThatIsSpoiled(t *testing.T) {
	d, f := fresh(t, 1000)
	fine(t, f.Hold(6, []byte("six")))
	fine(t, f.Hold(7, []byte("seven")))
	for off := range int64(slots) {
		c := d.Copy()
		b := []byte(text(c, "f"))
		b[off] ^= 4
		fine(t, c.Write("f", off, b[off:off+1]))
		if off < api.Sector {
			held(t, opens(t, c, "f"), 7, "seven")
		} else {
			held(t, opens(t, c, "f"), 6, "six")
		}
	}
	fine(t, d.Write("f", 20, []byte("########")))
	fine(t, d.Write("f", 150, []byte("########")))
	unheld(t, f, api.ErrForm)
}

// Held goes by what stands in the places, not by which place it stands in.
func TestP51HeldOfPlacesThatAreChanged(t *testing.T) {
	d, f := fresh(t, 1000)
	fine(t, d.Write("f", 0, []byte(place(7, []byte("odd")))))
	held(t, f, 7, "odd")
	fine(t, d.Write("f", 128, []byte(place(8, []byte("even")))))
	held(t, f, 8, "even")
	fine(t, d.Write("f", 128, []byte(place(7, []byte("later")))))
	held(t, f, 7, "odd")
}

// Of what was held by turns, each synced, a crash leaves the last one that was
// synced or the one behind it.
func TestP5WhatIsHeldAndSyncedHolds(t *testing.T) {
	d, f := fresh(t, 1000)
	fine(t, d.SyncDir())
	for gen := uint64(1); gen < 20; gen++ {
		fine(t, f.Hold(gen, []byte{byte(gen)}))
		fine(t, f.Sync())
		fine(t, f.Hold(gen+1, []byte{byte(gen + 1)}))
		for _, bits := range [][]byte{nil, {0}, {0, 0xFE}} {
			c := d.Copy()
			c.Crash(bits)
			held(t, opens(t, c, "f"), gen, string([]byte{byte(gen)}))
		}
		c := d.Copy()
		c.Crash([]byte{0, 1})
		held(t, opens(t, c, "f"), gen+1, string([]byte{byte(gen + 1)}))
	}
}
