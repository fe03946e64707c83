package root_test

import (
	"bytes"
	"testing"

	"pandect/api"
	"pandect/root"
	"pandect/slot"
)

func TestP101Example(t *testing.T) {
	if api.Trees != trees {
		t.Fatal("there are other trees than these tests'")
	}
	if b := root.Put(api.Root{}); len(b) != 88 || !bytes.Equal(b, make([]byte, 88)) {
		t.Errorf("%x", b)
	}
	takes(t, 0, make([]byte, 88), api.Root{})
}

// One of them, laid by hand.
func TestP101Layout(t *testing.T) {
	r := api.Root{Gen: 0x2122232425262728, Next: 0x0102030405060708}
	r.T[api.ByStream] = api.Ref{Off: 0x1112131415161718, Count: 0x8182838485868788}
	r.T[api.BySeq] = api.Ref{Off: 256, Count: 3}
	r.T[api.ByHead] = api.Ref{Off: 1, Count: 1 << 56}
	r.T[api.ByMark] = api.Ref{Off: 1 << 56, Count: 255}
	want := "\x01\x02\x03\x04\x05\x06\x07\x08" +
		"\x11\x12\x13\x14\x15\x16\x17\x18" + "\x81\x82\x83\x84\x85\x86\x87\x88" +
		"\x00\x00\x00\x00\x00\x00\x01\x00" + "\x00\x00\x00\x00\x00\x00\x00\x03" +
		"\x00\x00\x00\x00\x00\x00\x00\x00" + "\x00\x00\x00\x00\x00\x00\x00\x00" +
		"\x00\x00\x00\x00\x00\x00\x00\x01" + "\x01\x00\x00\x00\x00\x00\x00\x00" +
		"\x01\x00\x00\x00\x00\x00\x00\x00" + "\x00\x00\x00\x00\x00\x00\x00\xff"
	if b := root.Put(r); string(b) != want {
		t.Errorf("%x, not %x", b, want)
	}
	takes(t, r.Gen, []byte(want), r)
}

// What follows: what is put is taken.
func TestP10WhatIsPutIsTaken(t *testing.T) {
	for _, r := range some() {
		may(t, r)
		b := root.Put(r)
		takes(t, r.Gen, b, r)
	}
}

func TestP101WhatMayNotBe(t *testing.T) {
	for _, r := range not() {
		mayNot(t, r)
	}
}

// Each of the trees may be empty or not, as the others may.
func TestP101EachFewTrees(t *testing.T) {
	for which := range 1 << trees {
		r := full()
		for i := range trees {
			if which>>i&1 == 0 {
				r.T[i] = api.Ref{}
			}
		}
		may(t, r)
		for i := range trees {
			mayNot(t, with(r, i, 0, 1))
			mayNot(t, with(r, i, 1, 0))
			mayNot(t, with(r, i, -1, 0))
			mayNot(t, with(r, i, -1, 1))
		}
		r.Next = -1
		mayNot(t, r)
	}
}

// Each small number of a tree, in each place.
func TestP101EachSmallTree(t *testing.T) {
	for off := int64(-20); off < 20; off++ {
		for count := range uint64(20) {
			for i := range trees {
				for _, r := range []api.Root{with(api.Root{}, i, off, count), with(full(), i, off, count)} {
					if off > 0 && count > 0 || off == 0 && count == 0 {
						may(t, r)
					} else {
						mayNot(t, r)
					}
				}
			}
		}
	}
}

// Next hangs on no tree: it may be nought where one is full, and whatever where
// all are empty.
func TestP101EachSmallNext(t *testing.T) {
	for next := int64(-600); next < 600; next++ {
		for _, r := range []api.Root{{}, full(), with(api.Root{}, 1, 256, 1)} {
			if r.Next = next; next < 0 {
				mayNot(t, r)
			} else {
				may(t, r)
			}
		}
	}
}

// Two faults in two places do not make one right.
func TestP101TwoFaults(t *testing.T) {
	for i := range trees {
		for j := range trees {
			if i == j {
				continue
			}
			for _, r := range []api.Root{{}, full()} {
				mayNot(t, with(with(r, i, 0, 1), j, 1, 0))
				mayNot(t, with(with(r, i, 0, 1), j, 0, 1))
				mayNot(t, with(with(r, i, 1, 0), j, 1, 0))
				mayNot(t, with(with(r, i, -1, 1), j, -1, 1))
				r.Next = -1
				mayNot(t, with(r, i, -1, 1))
				mayNot(t, with(r, j, 0, 1))
			}
		}
	}
}

// The generation is the slot's: it is not among the bytes, and may be any.
func TestP101GenIsNotPut(t *testing.T) {
	for _, r := range []api.Root{{}, full(), {Next: 5}} {
		for _, gen := range gens() {
			r.Gen = gen
			may(t, r)
		}
	}
	for _, r := range not() {
		for _, gen := range []uint64{0, 1, 1 << 63} {
			r.Gen = gen
			mayNot(t, r)
		}
	}
}

func TestP101GenIsTheSlots(t *testing.T) {
	for _, gen := range gens() {
		for _, r := range []api.Root{{}, full()} {
			r.Gen = gen
			b, e := slot.Put(r.Gen, root.Put(r))
			if e != api.OK {
				t.Fatalf("%v: %d", r, e)
			}
			gen, body, _ := slot.Take(b)
			takes(t, gen, body, r)
		}
	}
}

// Roots of other bytes are others, and those of one are alike but for Gen.
func TestP101NoTwoAreAlike(t *testing.T) {
	seen := map[string]api.Root{}
	for _, r := range some() {
		r.Gen = 0
		b := string(root.Put(r))
		if was, is := seen[b]; is && was != r {
			t.Errorf("%v and %v: %x", was, r, b)
		}
		seen[b] = r
		if len(b) != size {
			t.Errorf("%d bytes", len(b))
		}
	}
}
