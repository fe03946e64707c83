package event_test

import (
	"slices"
	"strings"
	"sync"
	"testing"

	"pandect/api"
	"pandect/event"
)

// Whatever is handed in, however long.
func TestR1NonePanics(t *testing.T) {
	long := strings.Repeat("a", 1<<24)
	mayBe := api.Event{Seq: 1, Stream: "s", Version: 2, Type: "t"}
	for _, e := range []api.Event{{Stream: long, Type: "t"}, {Stream: "s", Type: long}, {Stream: "s", Type: "t", Data: []byte(long)}, {Stream: long, Type: long, Data: []byte(long)}} {
		if event.May(e) || len(event.Put(e)) != 0 || event.Same(e, mayBe) || !event.Same(e, e) {
			t.Error("so long")
		}
	}
	for _, c := range []string{"a", "\x00", "\x01", "\x7f", "\xff"} {
		b := []byte(strings.Repeat(c, 1<<20))
		if e, no := event.Take(b); no != api.ErrForm || !alike(e, api.Event{}) {
			t.Errorf("%d bytes of %q: %+v, %d", len(b), c, e, no)
		}
	}
}

func TestR3WhatIsHandedInStays(t *testing.T) {
	for _, e := range some() {
		room := append(slices.Clone(e.Data), "spare room"...)
		was := string(room)
		e.Data = room[:len(e.Data)]
		event.May(e)
		event.Put(e)
		event.Same(e, e)
		if string(room) != was {
			t.Errorf("%q became %q", was, room)
		}
		room = []byte(laid(e) + "spare room")
		was = string(room)
		for n := range len(room) + 1 {
			event.Take(room[:n])
			event.Take(room[:n:n])
		}
		if string(room) != was {
			t.Errorf("%q became %q", was, room)
		}
	}
}

func TestR3PutSharesNothing(t *testing.T) {
	for _, e := range some() {
		want := laid(e)
		e.Data = append(slices.Clone(e.Data), "spare room"...)[:len(e.Data)]
		b, other := event.Put(e), event.Put(e)
		clear(e.Data[:cap(e.Data)])
		if string(b) != want {
			t.Errorf("Put kept what was handed in: %q, not %q", b, want)
		}
		_ = append(b, "####"...)
		clear(b[:cap(b)])
		if string(other) != want {
			t.Errorf("Put told what is not new: %q, not %q", other, want)
		}
	}
}

func TestR3TakeSharesNothing(t *testing.T) {
	for _, e := range some() {
		want := laid(e)
		b := []byte(want + "spare room")
		took, _ := event.Take(b[:len(want)])
		other, _ := event.Take(b[:len(want)])
		clear(b)
		if laid(took) != want {
			t.Errorf("Take kept what was handed in: %+v", took)
		}
		copy(b, want+"spare room")
		_ = append(took.Data, "####"...)
		clear(took.Data[:cap(took.Data)])
		if laid(other) != want || string(b) != want+"spare room" {
			t.Errorf("Take told what is not new: %+v, %q", other, b)
		}
	}
}

// An answer hangs on what was handed in alone: not on what was asked ahead of
// it or beside it.
func TestR4Same(t *testing.T) {
	e, other := some()[0], some()[2]
	var wait sync.WaitGroup
	for range 8 {
		wait.Go(func() {
			for range 100 {
				event.Put(other)
				event.Take([]byte(laid(other)))
				none(t, laid(e)[1:])
				mayNot(t, api.Event{Seq: -1})
				may(t, e)
			}
		})
	}
	wait.Wait()
}
