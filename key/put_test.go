package key_test

import (
	"strings"
	"testing"

	"pandect/api"
	"pandect/key"
)

func TestP61Example(t *testing.T) {
	says(t, "Stream(a, 1)", key.Stream("a", 1), "a\x00\x00\x00\x00\x00\x00\x00\x00\x01")
}

func TestP61MayName(t *testing.T) {
	if api.MaxName != most {
		t.Fatal("names are others than these tests'")
	}
	for _, s := range names() {
		if !key.MayName(s) {
			t.Errorf("%q may not be", s)
		}
	}
	for _, s := range noNames() {
		if key.MayName(s) {
			t.Errorf("%.40q, %d bytes, may be", s, len(s))
		}
	}
	for n := range 600 {
		if key.MayName(strings.Repeat("~", n)) != (n >= 1 && n <= most) {
			t.Errorf("%d bytes", n)
		}
	}
}

// Every name of one or two bytes: only those from 33 to 126 are of one.
func TestP61MayNameOfEachByte(t *testing.T) {
	may := func(c int) bool { return c >= 33 && c <= 126 }
	for c := range 256 {
		if key.MayName(string([]byte{byte(c)})) != may(c) {
			t.Errorf("%d", c)
		}
		for d := range 256 {
			if key.MayName(string([]byte{byte(c), byte(d)})) != (may(c) && may(d)) {
				t.Errorf("%d, %d", c, d)
			}
		}
	}
}

// Keys that were laid by hand.
func TestP61Layout(t *testing.T) {
	says(t, "Stream", key.Stream("stream", 0x0102030405060708), "stream\x00\x01\x02\x03\x04\x05\x06\x07\x08")
	says(t, "Type", key.Type("type", 0x0102030405060708), "type\x00\x01\x02\x03\x04\x05\x06\x07\x08")
	says(t, "Seq", key.Seq(0x0102030405060708), "\x01\x02\x03\x04\x05\x06\x07\x08")
	says(t, "Head", key.Head("stream"), "hstream")
	says(t, "ID", key.ID("id"), "iid")
	says(t, "Snap", key.Snap("stream"), "sstream")
	says(t, "Point", key.Point("name"), "pname")
}

func TestP61OfNamesAndNumbers(t *testing.T) {
	for _, k := range ofBoth() {
		for _, s := range names() {
			for _, n := range numbers() {
				says(t, k.what, k.put(s, n), laid(s, n))
			}
		}
	}
}

func TestP61OfNumbers(t *testing.T) {
	for _, n := range numbers() {
		says(t, "Seq", key.Seq(n), eight(n))
	}
	for _, n := range noNumbers() {
		says(t, "Seq", key.Seq(n), "")
	}
}

func TestP61OfNames(t *testing.T) {
	for _, k := range ofNames() {
		for _, s := range names() {
			says(t, k.what, k.put(s), k.letter+s)
		}
		for _, s := range noNames() {
			says(t, k.what, k.put(s), "")
		}
	}
}

// One part that may not be is enough, whichever it is.
func TestP61OfWhatMayNotBe(t *testing.T) {
	for _, k := range ofBoth() {
		for _, s := range noNames() {
			for _, n := range []int64{0, 1, 97, api.MaxSeq, -1} {
				says(t, k.what, k.put(s, n), "")
			}
		}
		for _, s := range names() {
			for _, n := range noNumbers() {
				says(t, k.what, k.put(s, n), "")
			}
		}
	}
}

func TestP61NoKeyIsTooLong(t *testing.T) {
	s := strings.Repeat("~", most)
	for _, b := range [][]byte{key.Stream(s, api.MaxSeq), key.Type(s, api.MaxSeq), key.Seq(api.MaxSeq), key.Head(s), key.ID(s), key.Snap(s), key.Point(s)} {
		if len(b) < 1 || len(b) > api.MaxKey {
			t.Errorf("%q", b)
		}
	}
}
