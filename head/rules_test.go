package head_test

import (
	"slices"
	"strings"
	"sync"
	"testing"

	"pandect/api"
	"pandect/head"
)

// Whatever is handed in, however long.
func TestR1NonePanics(t *testing.T) {
	if b := head.PutMark(api.Mark{Data: make([]byte, 1<<24)}); len(b) != 0 {
		t.Errorf("%d bytes", len(b))
	}
	for _, c := range []string{"a", "\x00", "\x01", "\x7f", "\xff"} {
		b := []byte(strings.Repeat(c, 1<<20))
		for _, k := range kinds() {
			k.isNone(t, b)
		}
	}
}

func TestR3WhatIsHandedInStays(t *testing.T) {
	for _, k := range kinds() {
		for _, s := range k.bytes() {
			room := []byte(s + "spare room")
			for n := range len(room) + 1 {
				k.asPlain(t, room[:n])
				k.asPlain(t, room[:n:n])
			}
			if string(room) != s+"spare room" {
				t.Errorf("%q became %q", s, room)
			}
		}
	}
	for _, m := range marks().some {
		room := append(slices.Clone(m.Data), "spare room"...)
		was := string(room)
		m.Data = room[:len(m.Data)]
		head.PutMark(m)
		if string(room) != was {
			t.Errorf("%q became %q", was, room)
		}
	}
}

// keepsNothing: what is put is new each time, of what is taken nothing is kept.
func (k kind[T]) keepsNothing(t *testing.T) {
	t.Helper()
	for _, thing := range k.some {
		want := k.laid(thing)
		b, other := k.put(thing), k.put(thing)
		_ = append(b, "####"...)
		clear(b[:cap(b)])
		if string(other) != want {
			t.Errorf("Put%s told what is not new: %q, not %q", k.what, other, want)
		}
		room := []byte(want + "spare room")
		took, _ := k.take(room[:len(want)])
		clear(room)
		if k.laid(took) != want {
			t.Errorf("Take%s kept what was handed in: %+v", k.what, took)
		}
	}
}

func TestR3NothingIsKept(t *testing.T) {
	for _, k := range kinds() {
		k.keepsNothing(t)
	}
}

func TestR3DataAreNotShared(t *testing.T) {
	k := marks()
	for _, m := range k.some {
		want := k.laid(m)
		m.Data = append(slices.Clone(m.Data), "spare room"...)[:len(m.Data)]
		b := head.PutMark(m)
		clear(m.Data[:cap(m.Data)])
		if string(b) != want {
			t.Errorf("PutMark kept what was handed in: %q, not %q", b, want)
		}
		b = []byte(want + "spare room")
		took, _ := head.TakeMark(b[:len(want)])
		other, _ := head.TakeMark(b[:len(want)])
		_ = append(took.Data, "####"...)
		clear(took.Data[:cap(took.Data)])
		if k.laid(other) != want || string(b) != want+"spare room" {
			t.Errorf("TakeMark told what is not new: %+v, %q", other, b)
		}
	}
}

// An answer hangs on what was handed in alone: not on what was asked ahead of
// it or beside it.
func TestR4Same(t *testing.T) {
	all := kinds()
	var wait sync.WaitGroup
	for i := range 8 {
		wait.Go(func() {
			for j := range 20 {
				k := all[(i+j)%len(all)]
				k.isPut(t)
				k.isNotPut(t)
				k.isNone(t, []byte("none"))
			}
		})
	}
	wait.Wait()
}
