package root_test

import (
	"strings"
	"sync"
	"testing"

	"pandect/api"
	"pandect/root"
)

// Whatever is handed in, however long.
func TestR1NonePanics(t *testing.T) {
	for _, c := range []string{"a", "\x00", "\x01", "\x7f", "\x80", "\xff"} {
		for _, n := range []int{size - 1, size + 1, size + 8, 2 * size, 1 << 20} {
			none(t, 1, []byte(strings.Repeat(c, n)))
		}
		asPlain(t, 1, []byte(strings.Repeat(c, size)))
	}
}

func TestR3WhatIsHandedInStays(t *testing.T) {
	for _, r := range append(some(), not()...) {
		was := laid(r) + "spare room"
		room := []byte(was)
		for _, n := range []int{0, 1, 8, 24, size - 1, size, size + 1, len(room)} {
			root.Take(3, room[:n])
			root.Take(3, room[:n:n])
		}
		if string(room) != was {
			t.Errorf("%x became %x", was, room)
		}
	}
}

// What is put is new each time, and what was taken is not what was handed in.
func TestR3NothingIsShared(t *testing.T) {
	for _, r := range some() {
		want := laid(r)
		b, other := root.Put(r), root.Put(r)
		_ = append(b, "####"...)
		clear(b[:cap(b)])
		if string(other) != want || string(root.Put(r)) != want {
			t.Errorf("Put told what is not new: %x, not %x", other, want)
		}
		room := []byte(want + "spare room")
		took, _ := root.Take(r.Gen, room[:len(want)])
		clear(room)
		if took != r {
			t.Errorf("Take kept what was handed in: %v, not %v", took, r)
		}
	}
}

// An answer hangs on what was handed in alone: not on what was asked ahead of
// it or beside it.
func TestR4Same(t *testing.T) {
	all, wrong := some(), not()
	var wait sync.WaitGroup
	for i := range 8 {
		wait.Go(func() {
			for j := range 2000 {
				may(t, all[(i+j)%len(all)])
				mayNot(t, wrong[(i*j)%len(wrong)])
				takes(t, uint64(j), make([]byte, size), api.Root{Gen: uint64(j)})
			}
		})
	}
	wait.Wait()
}
