package event_test

import (
	"math"
	"testing"

	"pandect/api"
	"pandect/event"
)

// same asks both ways.
func same(t *testing.T, a, b api.Event, want bool) {
	t.Helper()
	if event.Same(a, b) != want || event.Same(b, a) != want {
		t.Errorf("%+v, %+v: not %v", a, b, want)
	}
}

func TestP71SameOfAlike(t *testing.T) {
	for _, e := range append(some(), api.Event{}) {
		same(t, e, e, true)
		other := e
		other.Data = append([]byte{}, e.Data...)
		same(t, e, other, true)
	}
}

func TestP71SameOfNothing(t *testing.T) {
	e := api.Event{Seq: 1, Stream: "s", Version: 2, Type: "t"}
	nothing := [][]byte{nil, {}, []byte("not this")[:0], make([]byte, 0, 9)}
	for _, a := range nothing {
		for _, b := range nothing {
			one, other := e, e
			one.Data, other.Data = a, b
			same(t, one, other, true)
		}
	}
}

// One thing that is unlike is enough, whichever it is.
func TestP71SameOfUnlike(t *testing.T) {
	for _, e := range some() {
		for _, n := range append(numbers(), noNumbers()...) {
			seq, version := e, e
			seq.Seq, version.Version = n, n
			same(t, e, seq, n == e.Seq)
			same(t, e, version, n == e.Version)
		}
		for _, s := range []string{"", "x", e.Stream + "x", e.Stream[1:], "S", "T"} {
			stream, typed := e, e
			stream.Stream, typed.Type = s, s
			same(t, e, stream, s == e.Stream)
			same(t, e, typed, s == e.Type)
		}
	}
}

func TestP71SameOfUnlikeData(t *testing.T) {
	e := api.Event{Seq: 1, Stream: "s", Version: 2, Type: "t"}
	for n := range mostData + 1 {
		one, other := e, e
		one.Data = drawn(n)
		other.Data = append(drawn(n), 0)
		same(t, one, other, false)
		for i := range n {
			other.Data = drawn(n)
			other.Data[i] ^= 1
			same(t, one, other, false)
			same(t, one, api.Event{Seq: 1, Stream: "s", Version: 2, Type: "t", Data: drawn(n)[:i]}, false)
		}
	}
}

// What stands in one's place is not held against what stands in another's.
func TestP71SameOfWhatChangedPlaces(t *testing.T) {
	same(t, api.Event{Seq: 1, Version: 2}, api.Event{Seq: 2, Version: 1}, false)
	same(t, api.Event{Stream: "a", Type: "b"}, api.Event{Stream: "b", Type: "a"}, false)
	same(t, api.Event{Stream: "ab", Type: "c"}, api.Event{Stream: "a", Type: "bc"}, false)
	same(t, api.Event{Type: "ab", Data: []byte("c")}, api.Event{Type: "a", Data: []byte("bc")}, false)
}

// It asks of events that may not be as of others.
func TestP71SameOfWhatMayNotBe(t *testing.T) {
	e := some()[0]
	for _, other := range turned(e) {
		same(t, e, other, false)
		same(t, other, other, true)
	}
	same(t, api.Event{Seq: -1}, api.Event{Seq: math.MaxInt64}, false)
}
