package slot_test

import (
	"bytes"
	"testing"

	"pandect/slot"
)

func TestR3WhatIsHandedInStays(t *testing.T) {
	room := []byte("in and spare room")
	put(t, 1, room[:2])
	put(t, 1, room[:2:2])
	if string(room) != "in and spare room" {
		t.Errorf("Put changed %q", room)
	}
	a := append(put(t, 1, []byte("in")), "spare room"...)
	b := append(put(t, 2, []byte("in too")), "spare room"...)
	wasA, wasB := string(a), string(b)
	for _, n := range []int{0, 11, 127, 128, 130} {
		slot.Take(a[:n])
		slot.Better(a[:n], b[:128])
		slot.Better(b[:128], a[:n])
	}
	if string(a) != wasA || string(b) != wasB {
		t.Errorf("%q, %q", a, b)
	}
}

func TestR3PutIsNew(t *testing.T) {
	in := []byte("body")
	b := put(t, 1, in)
	in[0] = '#'
	again := put(t, 1, []byte("body"))
	if !bytes.Equal(b, again) {
		t.Errorf("Put kept what was handed in: %q", b)
	}
	_ = append(b, "####"...)
	b[20] = '#'
	if !bytes.Equal(again, whole(1, []byte("body"))) || !bytes.Equal(put(t, 1, []byte("body")), again) {
		t.Errorf("Put kept what was told: %q", again)
	}
}

func TestR3WhatIsTakenIsNew(t *testing.T) {
	for _, want := range []string{"", "body", string(drawn(most))} {
		b := append(put(t, 1, []byte(want)), "behind"...)
		was := string(b)
		_, taken, _ := slot.Take(b[:128])
		_, _, other, _ := slot.Better(b[:128], b[:128])
		_, _, last, _ := slot.Better(nil, b[:128])
		clear(b)
		if string(taken) != want || string(other) != want || string(last) != want {
			t.Errorf("what was handed in is kept: %q, %q, %q", taken, other, last)
		}
		copy(b, was)
		for _, told := range [][]byte{taken, other, last} {
			_ = append(told, "####"...)
			clear(told[:cap(told)])
		}
		if string(b) != was {
			t.Errorf("what was told is not new: %q", b)
		}
	}
}
