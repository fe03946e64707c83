package event_test

import (
	"bytes"
	"slices"
	"strings"
	"testing"

	"pandect/api"
	"pandect/event"
)

// What follows: what is put is taken.
func TestP7WhatIsPutIsTaken(t *testing.T) {
	for _, e := range some() {
		may(t, e)
		took, _ := event.Take(event.Put(e))
		if !event.Same(took, e) || !bytes.Equal(event.Put(took), event.Put(e)) {
			t.Errorf("%+v was taken as %+v", e, took)
		}
	}
}

func TestP71TakeOfWhatMayNotBe(t *testing.T) {
	none(t, laid(api.Event{}))
	for _, e := range some()[:6] {
		for _, other := range turned(e) {
			none(t, laid(other))
		}
	}
}

func TestP71TakeOfWhatIsCut(t *testing.T) {
	noneOf(t, nil)
	none(t, "")
	for _, e := range some() {
		b := laid(e)
		for k := range b {
			none(t, b[:k])
			// what lies in the spare room is not there
			noneOf(t, []byte(b)[:k])
		}
	}
}

func TestP71TakeOfWhatIsCutAtTheFront(t *testing.T) {
	for _, e := range some()[:6] {
		b := laid(e)
		for k := 1; k < len(b); k++ {
			took, no := event.Take([]byte(b[k:]))
			if no == api.OK && laid(took) != b[k:] || no != api.OK && no != api.ErrForm {
				t.Errorf("%q: %+v, %d", b[k:], took, no)
			}
		}
	}
}

func TestP71TakeOfWhatIsLonger(t *testing.T) {
	for _, e := range some() {
		b := laid(e)
		for c := range 256 {
			none(t, b+string([]byte{byte(c)}))
		}
		for _, more := range []string{"\x00\x00", b, strings.Repeat("\x00", 5000), text("more")} {
			none(t, b+more)
		}
	}
}

// Each other length of each text moves what stands behind it.
func TestP71TakeOfOtherLengths(t *testing.T) {
	for _, e := range some()[:6] {
		b := []byte(laid(e))
		for _, at := range []int{16, 17 + len(e.Stream), 18 + len(e.Stream) + len(e.Type)} {
			was := b[at]
			for c := range 256 {
				if b[at] = byte(c); b[at] != was {
					sameAsPlain(t, b)
				}
			}
			b[at] = was
		}
	}
}

func TestP71TakeOfATurnedBit(t *testing.T) {
	for _, e := range some() {
		b := []byte(laid(e))
		for i := range 8 * len(b) {
			b[i/8] ^= 1 << (i % 8)
			sameAsPlain(t, b)
			b[i/8] ^= 1 << (i % 8)
		}
	}
}

// The highest bit of a number turned is one below nought.
func TestP71TakeOfNumbersBelowNought(t *testing.T) {
	for _, e := range some() {
		for _, at := range []int{0, 8} {
			b := []byte(laid(e))
			b[at] |= 0x80
			noneOf(t, b)
		}
	}
}

func TestP71TakeOfNoughts(t *testing.T) {
	for n := range 400 {
		none(t, strings.Repeat("\x00", n))
		none(t, strings.Repeat("\xff", n))
		none(t, strings.Repeat("a", n))
		none(t, strings.Repeat("\x01", n))
	}
}

// plain takes an event as the document tells it, another way: it tries each
// length of the three texts and looks whether just b comes out.
func plain(b []byte) (api.Event, api.Errno) {
	if len(b) < 21 {
		return api.Event{}, api.ErrForm
	}
	var seq, version int64
	for i := range 8 {
		seq, version = seq*256+int64(b[i]), version*256+int64(b[8+i])
	}
	for n := 1; n <= mostName; n++ {
		for m := 1; m <= mostName; m++ {
			data := len(b) - 19 - n - m
			if data < 0 || data > mostData || int(b[16]) != n {
				continue
			}
			e := api.Event{Seq: seq, Version: version, Stream: string(b[17 : 17+n]), Type: string(b[18+n : 18+n+m]), Data: b[19+n+m:]}
			if laid(e) == string(b) && seq >= 0 && version >= 0 && printed(e.Stream) && printed(e.Type) {
				return e, api.OK
			}
		}
	}
	return api.Event{}, api.ErrForm
}

func printed(s string) bool {
	return !slices.ContainsFunc([]byte(s), func(c byte) bool { return c <= ' ' || c > '~' })
}

func sameAsPlain(t *testing.T, b []byte) (taken bool) {
	t.Helper()
	e, no := event.Take(b)
	want, wantNo := plain(b)
	if no != wantNo || !alike(e, want) {
		t.Errorf("Take of %q: %+v, %d, not %+v, %d", b, e, no, want, wantNo)
	}
	return no == api.OK
}

// Events that are drawn, and then spoiled a little or not.
func TestP71TakeAsThePlainOne(t *testing.T) {
	l, all, took := lot(1), some(), 0
	for range 20000 {
		e := all[l.IntN(len(all))]
		e.Data = drawn(l.IntN(mostData + 1))
		b := []byte(laid(e))
		if l.IntN(3) == 0 {
			b[l.IntN(len(b))] ^= 1 << l.IntN(8)
		}
		if l.IntN(4) == 0 {
			b[16+l.IntN(len(b)-16)] = byte(l.IntN(mostData))
		}
		if l.IntN(4) == 0 {
			b = append(b, make([]byte, l.IntN(3))...)
		}
		if l.IntN(4) == 0 {
			b = b[:len(b)-l.IntN(3)]
		}
		if sameAsPlain(t, b) {
			took++
		}
	}
	if took < 2000 || took > 18000 {
		t.Errorf("%d of them were events", took)
	}
}
