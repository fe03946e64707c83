package head_test

import (
	"strings"
	"testing"

	"pandect/api"
)

func TestP81TakeOfWhatMayNotBe(t *testing.T) {
	for _, k := range []anyKind{heads(), marks(), offs()} {
		for _, b := range k.notBytes() {
			k.isNone(t, []byte(b))
		}
	}
	k := dones()
	for _, n := range noNumbers() {
		for _, c := range []int{0, 1, mostCount} {
			k.isNone(t, []byte(k.laid(api.Done{First: n, Count: c})))
		}
	}
	for _, n := range numbers() {
		k.isNone(t, []byte(k.laid(api.Done{First: n})))
	}
}

// What ends too soon is none, whatever stands in the spare room. A mark's data
// end where they end.
func TestP81TakeOfWhatIsCut(t *testing.T) {
	for _, k := range kinds() {
		k.isNone(t, nil)
		k.isNone(t, []byte{})
		for _, s := range k.bytes() {
			b := []byte(s)
			for n := range b {
				if k.name() == "Mark" && n >= 8 {
					k.asPlain(t, b[:n])
					continue
				}
				k.isNone(t, b[:n])
				k.isNone(t, b[:n:n])
			}
		}
	}
}

func TestP81TakeOfWhatIsCutAtTheFront(t *testing.T) {
	for _, k := range kinds() {
		for _, s := range k.bytes() {
			for n := range len(s) {
				k.asPlain(t, []byte(s[n+1:]))
			}
		}
	}
}

func TestP81TakeOfWhatIsLonger(t *testing.T) {
	for _, k := range kinds() {
		for _, s := range k.bytes() {
			for _, more := range []string{"\x00", "\x01", "\xff", "\x00\x00", "a", s, strings.Repeat("\x00", mostData), strings.Repeat("\x00", 5000)} {
				if k.name() != "Mark" {
					k.isNone(t, []byte(s+more))
				}
				k.asPlain(t, []byte(s+more))
			}
		}
	}
}

// Nought and one alone tell whether a stream is no more.
func TestP81TakeOfEachTomb(t *testing.T) {
	k := heads()
	for _, n := range numbers() {
		for c := range 256 {
			b := []byte(eight(n) + eight(n/2) + string([]byte{byte(c)}))
			if c > 1 {
				k.isNone(t, b)
			} else {
				k.takes(t, b, api.Head{Next: n, First: n / 2, Tomb: c == 1})
			}
		}
	}
}

func TestP81TakeOfEachCount(t *testing.T) {
	k := dones()
	k.isNone(t, []byte(eight(7)+two(0)))
	for c := 1; c <= mostCount; c++ {
		k.takes(t, []byte(eight(7)+string([]byte{byte(c >> 8), byte(c)})), api.Done{First: 7, Count: c})
	}
}

// A turned bit is taken as what it says, if that may be.
func TestP81TakeOfATurnedBit(t *testing.T) {
	for _, k := range kinds() {
		for _, s := range k.bytes() {
			b := []byte(s)
			for i := range 8 * len(b) {
				b[i/8] ^= 1 << (i % 8)
				k.asPlain(t, b)
				b[i/8] ^= 1 << (i % 8)
			}
		}
	}
}

// The highest bit of a number turned is one below nought.
func TestP81TakeOfNumbersBelowNought(t *testing.T) {
	for _, k := range kinds() {
		for _, s := range k.bytes() {
			b := []byte(s)
			b[0] |= 0x80
			k.isNone(t, b)
			if k.name() == "Head" {
				b = []byte(s)
				b[8] |= 0x80
				k.isNone(t, b)
				b[0] |= 0x80
				k.isNone(t, b)
			}
		}
	}
}

func TestP81TakeOfNoughts(t *testing.T) {
	for _, k := range kinds() {
		for n := range 400 {
			for _, c := range []string{"\x00", "\x01", "\x7f", "\x80", "\xff", "a"} {
				k.asPlain(t, []byte(strings.Repeat(c, n)))
			}
		}
	}
}

// Bytes that are drawn, and some that are of a thing and spoiled a little.
func TestP81TakeAsThePlainOne(t *testing.T) {
	for _, k := range kinds() {
		l, all, took := lot(1), k.bytes(), 0
		for i := range 20000 {
			b := drawn(i % 120)
			if i%4 > 0 {
				b = []byte(all[l.IntN(len(all))])
			}
			if l.IntN(3) == 0 && len(b) > 0 {
				b[l.IntN(len(b))] ^= 1 << l.IntN(8)
			}
			if l.IntN(4) == 0 {
				b = append(b, make([]byte, l.IntN(3))...)
			}
			if l.IntN(4) == 0 && len(b) > 2 {
				b = b[:len(b)-l.IntN(3)]
			}
			if k.asPlain(t, b) {
				took++
			}
		}
		if took < 2000 || took > 18000 {
			t.Errorf("%d of them were a %s", took, k.name())
		}
	}
}
