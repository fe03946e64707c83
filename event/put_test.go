package event_test

import (
	"strings"
	"testing"

	"pandect/api"
	"pandect/event"
)

func TestP71Example(t *testing.T) {
	if api.MaxName != mostName || api.MaxData != mostData {
		t.Fatal("names and data are others than these tests'")
	}
	for _, nothing := range [][]byte{nil, {}, []byte("not this")[:0]} {
		e := api.Event{Seq: 1, Stream: "s", Version: 2, Type: "t", Data: nothing}
		if b := event.Put(e); len(b) != 21 {
			t.Errorf("%d bytes: %q", len(b), b)
		}
		may(t, e)
	}
}

// An event that was laid by hand.
func TestP71Layout(t *testing.T) {
	e := api.Event{Seq: 0x0102030405060708, Stream: "stream", Version: 0x1112131415161718, Type: "type", Data: []byte("what happened")}
	want := "\x01\x02\x03\x04\x05\x06\x07\x08\x11\x12\x13\x14\x15\x16\x17\x18\x06stream\x04type\x0dwhat happened"
	if b := event.Put(e); string(b) != want {
		t.Errorf("%q, not %q", b, want)
	}
	takes(t, want, e)
}

func TestP71EachNumber(t *testing.T) {
	for _, e := range some()[:6] {
		for _, n := range numbers() {
			seq, version := e, e
			seq.Seq, version.Version = n, n
			may(t, seq)
			may(t, version)
		}
	}
}

func TestP71EachName(t *testing.T) {
	for _, e := range some()[:6] {
		for _, s := range names() {
			stream, typed := e, e
			stream.Stream, typed.Type = s, s
			may(t, stream)
			may(t, typed)
		}
	}
}

// Each name of one or two bytes: only those from 33 to 126 are of one.
func TestP71EachByteOfNames(t *testing.T) {
	is := func(c int) bool { return c >= 33 && c <= 126 }
	asks := func(s string, want bool) {
		if event.May(api.Event{Stream: s, Type: "t"}) != want || event.May(api.Event{Stream: "s", Type: s}) != want {
			t.Errorf("%q", s)
		}
	}
	for c := range 256 {
		asks(string([]byte{byte(c)}), is(c))
		for d := range 256 {
			asks(string([]byte{byte(c), byte(d)}), is(c) && is(d))
		}
	}
	for n := range 600 {
		asks(strings.Repeat("~", n), n >= 1 && n <= mostName)
	}
}

func TestP71EachLengthOfData(t *testing.T) {
	for _, e := range some()[:6] {
		for n := range 600 {
			e.Data = drawn(n)
			if n <= mostData {
				may(t, e)
			} else {
				mayNot(t, e)
			}
		}
	}
}

func TestP71EachByteOfData(t *testing.T) {
	for c := range 256 {
		for _, n := range []int{1, 2, mostData} {
			may(t, api.Event{Stream: "s", Type: "t", Data: []byte(strings.Repeat(string([]byte{byte(c)}), n))})
		}
	}
}

// One part that may not be is enough, whichever it is.
func TestP71WhatMayNotBe(t *testing.T) {
	mayNot(t, api.Event{})
	mayNot(t, api.Event{Seq: 1, Version: 1, Data: []byte("no names")})
	for _, e := range some() {
		for _, other := range turned(e) {
			mayNot(t, other)
		}
	}
}

// What an event is put as lies under a key.
func TestP71NoneIsTooLong(t *testing.T) {
	most := some()[2]
	if n := len(event.Put(most)); n != 19+2*mostName+mostData {
		t.Errorf("%d bytes", n)
	}
}
