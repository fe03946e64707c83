package key_test

import (
	"strings"
	"testing"

	"pandect/api"
	"pandect/key"
)

func TestP61WhatIsPutIsTaken(t *testing.T) {
	for _, k := range ofBoth() {
		for _, s := range names() {
			for _, n := range numbers() {
				k.takes(t, laid(s, n), s, n)
			}
		}
	}
}

func TestP61TakeOfNoKey(t *testing.T) {
	for _, k := range ofBoth() {
		if name, n, ok := k.take(nil); name != "" || n != 0 || ok {
			t.Errorf("Take%s of nil: %q, %d, %v", k.what, name, n, ok)
		}
		for _, s := range noNames() {
			for _, n := range []int64{0, 1, 97, api.MaxSeq} {
				k.none(t, laid(s, n))
			}
		}
		for _, s := range names() {
			k.none(t, s)
			k.none(t, s+"\x00")
			for _, n := range noNumbers() {
				k.none(t, laid(s, n))
			}
		}
		for _, n := range numbers() {
			k.none(t, string(key.Seq(n)))
			k.none(t, "\x00"+string(key.Seq(n)))
		}
	}
}

// The other kinds of keys have no nought behind a name, however long they are.
func TestP61TakeOfOtherKinds(t *testing.T) {
	for _, k := range ofBoth() {
		for _, other := range ofNames() {
			for _, s := range names() {
				k.none(t, string(other.put(s)))
			}
		}
	}
}

func TestP61TakeOfAnotherByteThanANought(t *testing.T) {
	for _, k := range ofBoth() {
		for _, s := range []string{"a", "name", strings.Repeat("n", most-1), strings.Repeat("n", most)} {
			for c := 1; c < 256; c++ {
				k.none(t, s+string([]byte{byte(c)})+eight(1))
			}
		}
	}
}

func TestP61TakeOfWhatIsCutOrLonger(t *testing.T) {
	for _, k := range ofBoth() {
		for _, s := range []string{"a", "ab", "name", strings.Repeat("n", most)} {
			for _, n := range []int64{0, 1, 97, 0x6100, 0x6161616161616161, api.MaxSeq} {
				b := laid(s, n)
				for i := range b {
					k.none(t, b[:i])
					if i < len(s) {
						k.takes(t, b[i:], s[i:], n)
					} else {
						k.none(t, b[i:])
					}
				}
				for _, more := range []string{"\x00", "\x01", "a", "\xff", eight(n), b} {
					k.none(t, b+more)
				}
				k.none(t, "\x00"+b)
				k.none(t, " "+b)
				k.none(t, b+b)
			}
		}
	}
}

// What lies in the spare room is not there.
func TestP61TakeHeedsNoSpareRoom(t *testing.T) {
	for _, k := range ofBoth() {
		b := []byte(laid("name", 5))
		for i := range b {
			if name, n, ok := k.take(b[:i]); name != "" || n != 0 || ok {
				t.Errorf("Take%s of %d bytes: %q, %d, %v", k.what, i, name, n, ok)
			}
		}
	}
}

// A nought ends a name; those of a number do not.
func TestP61TakeOfManyNoughts(t *testing.T) {
	for _, k := range ofBoth() {
		k.takes(t, "a"+strings.Repeat("\x00", 9), "a", 0)
		k.none(t, "a"+strings.Repeat("\x00", 10))
		k.none(t, "a"+strings.Repeat("\x00", 8))
		k.takes(t, "a\x00a\x00a\x00a\x00a\x00", "a", 0x6100610061006100)
		k.none(t, "a\x00a\x00a\x00a\x00a\x00a")
		for n := range 40 {
			k.none(t, strings.Repeat("\x00", n))
			k.none(t, strings.Repeat("a", n))
			k.none(t, strings.Repeat("\xff", n))
		}
	}
}

// plain takes a key as the document tells it, another way: it lays it for each
// length that a name may have.
func plain(b string) (string, int64, bool) {
	for n := 1; n <= most && n < len(b); n++ {
		number := int64(0)
		for i := n + 1; i < len(b); i++ {
			number = number*256 + int64(b[i])
		}
		if number >= 0 && key.MayName(b[:n]) && b == laid(b[:n], number) {
			return b[:n], number, true
		}
	}
	return "", 0, false
}

// Keys that are drawn, and then spoiled a little or not.
func TestP61TakeAsThePlainOne(t *testing.T) {
	l, took := lot(1), 0
	for i := range 20000 {
		s, n := names()[l.IntN(len(names()))], numbers()[l.IntN(len(numbers()))]
		b := []byte(laid(s, n))
		if l.IntN(3) == 0 {
			b[l.IntN(len(b))] ^= 1 << l.IntN(8)
		}
		if l.IntN(4) == 0 {
			b = b[l.IntN(3):]
		}
		if l.IntN(4) == 0 {
			b = append(b, make([]byte, l.IntN(3))...)
		}
		name, number, ok := plain(string(b))
		for _, k := range ofBoth() {
			if gotName, got, gotOk := k.take(b); gotName != name || got != number || gotOk != ok {
				t.Fatalf("%d: Take%s of %q: %q, %d, %v; not %q, %d, %v", i, k.what, b, gotName, got, gotOk, name, number, ok)
			}
		}
		if ok {
			took++
		}
	}
	if took < 5000 || took > 19000 {
		t.Errorf("%d of them were keys", took)
	}
}
