package root_test

import (
	"strings"
	"testing"

	"pandect/api"
	"pandect/root"
)

// The generation is what it is handed, whatever the bytes say.
func TestP101TakeOfEachGen(t *testing.T) {
	for _, r := range []api.Root{{}, full(), {Gen: 12, Next: 34}} {
		b := root.Put(r)
		for _, gen := range gens() {
			want := r
			want.Gen = gen
			takes(t, gen, b, want)
			none(t, gen, b[1:])
			none(t, gen, nil)
			none(t, gen, []byte(laid(with(r, 2, -1, 1))))
		}
	}
}

// What ends too soon is none, whatever stands in the spare room.
func TestP101TakeOfWhatIsCut(t *testing.T) {
	none(t, 1, nil)
	none(t, 1, []byte{})
	for _, r := range some() {
		b := []byte(laid(r))
		for n := range b {
			none(t, 1, b[:n])
			none(t, 1, b[:n:n])
		}
	}
}

func TestP101TakeOfWhatIsCutAtTheFront(t *testing.T) {
	for _, r := range some() {
		b := []byte(laid(r))
		for n := 1; n <= len(b); n++ {
			none(t, 1, b[n:])
		}
	}
}

func TestP101TakeOfWhatIsLonger(t *testing.T) {
	for _, r := range some() {
		s := laid(r)
		for _, more := range []string{"\x00", "\x01", "\xff", "\x00\x00", "a", eight(0), eight(0) + eight(0), eight(1) + eight(1), s, strings.Repeat("\x00", 5000)} {
			none(t, 1, []byte(s+more))
			none(t, 1, []byte(more+s))
		}
	}
}

// Noughts are a root where there are just so many.
func TestP101TakeOfEachLength(t *testing.T) {
	for n := range 1000 {
		for _, c := range []string{"\x00", "\x01", "\x7f", "\x80", "\xff", "a"} {
			b := []byte(strings.Repeat(c, n))
			if is := n == size && c[0] < 0x80; asPlain(t, 1, b) != is {
				t.Errorf("%d of %q: %v", n, c, !is)
			}
		}
	}
}

// A turned bit is taken as what it says, if that may be. (Each ninth root: these
// are of all kinds, and all of them would take long.)
func TestP101TakeOfATurnedBit(t *testing.T) {
	all := some()
	for n := 0; n < len(all); n += 9 {
		b := []byte(laid(all[n]))
		for i := range 8 * len(b) {
			b[i/8] ^= 1 << (i % 8)
			asPlain(t, 9, b)
			b[i/8] ^= 1 << (i % 8)
		}
	}
}

// The highest bit of Next or of an Off turned is one below nought; that of a
// Count is a Count.
func TestP101TakeOfTheHighestBit(t *testing.T) {
	for _, r := range some() {
		for at := 0; at < size; at += 8 {
			b := []byte(laid(r))
			b[at] |= 0x80
			isCount := at > 0 && at%16 == 0
			if !isCount {
				none(t, 1, b)
				continue
			}
			if place := at/16 - 1; r.T[place].Off == 0 {
				none(t, 1, b)
			} else {
				takes(t, r.Gen, b, with(r, place, r.T[place].Off, r.T[place].Count|1<<63))
			}
		}
	}
}

// Each byte that there is, in each place.
func TestP101TakeOfEachByte(t *testing.T) {
	for _, r := range []api.Root{{}, full(), with(api.Root{}, 3, 1, 1), with(full(), 3, 0, 0)} {
		b := []byte(laid(r))
		for i := range b {
			was := b[i]
			for c := range 256 {
				b[i] = byte(c)
				asPlain(t, 4, b)
			}
			b[i] = was
		}
	}
}

// Bytes that are drawn, and some that are of a root and spoiled a little.
func TestP101TakeAsThePlainOne(t *testing.T) {
	l, all, took := lot(1), some(), 0
	for i := range 50000 {
		b := drawn(i % 200)
		if i%4 > 0 {
			b = []byte(laid(all[l.IntN(len(all))]))
		}
		if l.IntN(3) == 0 && len(b) > 0 {
			b[l.IntN(len(b))] ^= 1 << l.IntN(8)
		}
		if l.IntN(4) == 0 && len(b) > 16 {
			clear(b[l.IntN(len(b)/8)*8:][:8])
		}
		if l.IntN(4) == 0 {
			b = append(b, make([]byte, l.IntN(3))...)
		}
		if l.IntN(4) == 0 && len(b) > 2 {
			b = b[:len(b)-l.IntN(3)]
		}
		if asPlain(t, l.Uint64(), b) {
			took++
		}
	}
	if took < 5000 || took > 45000 {
		t.Errorf("%d of them were a root", took)
	}
}

// Roots that are drawn, one number of each small or great, nought or below it.
func TestP101PutAsThePlainOne(t *testing.T) {
	l, were := lot(2), 0
	number := func() int64 {
		n := l.Int64() >> l.IntN(64)
		if l.IntN(40) == 0 {
			return -n
		}
		return n
	}
	for range 50000 {
		r := api.Root{Gen: l.Uint64(), Next: number()}
		for i := range r.T {
			if l.IntN(3) > 0 {
				r.T[i] = api.Ref{Off: number(), Count: l.Uint64() >> l.IntN(64)}
			}
			if l.IntN(9) == 0 {
				r.T[i].Count = 0
			}
		}
		if want, is := plain(r.Gen, []byte(laid(r))); is && want == r {
			may(t, r)
			were++
		} else {
			mayNot(t, r)
		}
	}
	if were < 5000 || were > 45000 {
		t.Errorf("%d of them might be", were)
	}
}
