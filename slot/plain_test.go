package slot_test

import (
	"math/rand/v2"
	"testing"

	"pandect/api"
	"pandect/slot"
)

// plain takes a slot as the document tells it, another way: it lays what may
// stand there and looks whether b is just so.
func plain(b []byte) (gen uint64, body string, e api.Errno) {
	if len(b) != 128 || b[10] > most {
		return 0, "", api.ErrForm
	}
	for _, c := range b[2:10] {
		gen = gen*256 + uint64(c)
	}
	body = string(b[11 : 11+b[10]])
	if string(whole(gen, []byte(body))) != string(b) {
		return 0, "", api.ErrForm
	}
	return gen, body, api.OK
}

func plainBetter(a, b []byte) (which int, gen uint64, body string, e api.Errno) {
	genA, bodyA, eA := plain(a)
	genB, bodyB, eB := plain(b)
	switch {
	case eA != api.OK && eB != api.OK:
		return 0, 0, "", api.ErrForm
	case eB != api.OK || eA == api.OK && genA >= genB:
		return 0, genA, bodyA, api.OK
	}
	return 1, genB, bodyB, api.OK
}

// draw makes bytes that are a slot now and then, and nearly one else.
func draw(l *rand.Rand) []byte {
	b := whole(uint64(l.IntN(4))<<(8*l.IntN(8)), drawn(l.IntN(l.IntN(most+1)+1)))
	if l.IntN(4) == 0 {
		b[l.IntN(128)] ^= 1 << l.IntN(8)
	}
	if l.IntN(4) == 0 {
		b[10] += byte(l.IntN(5)) - 2
	}
	if l.IntN(2) == 0 {
		b = sealed(b)
	}
	if l.IntN(8) == 0 {
		b = append(b, 0)[:128-l.IntN(3)+l.IntN(2)]
	}
	return b
}

func TestP4AsThePlainOne(t *testing.T) {
	l, took := lot(1), 0
	for i := range 20000 {
		a, b := draw(l), draw(l)
		gen, body, e := slot.Take(a)
		wantGen, wantBody, want := plain(a)
		if gen != wantGen || string(body) != wantBody || e != want {
			t.Fatalf("%d: %x: %d, %q, %d; not %d, %q, %d", i, a, gen, body, e, wantGen, wantBody, want)
		}
		if e == api.OK {
			took++
		}
		which, gen, body, e := slot.Better(a, b)
		wantWhich, wantGen, wantBody, want := plainBetter(a, b)
		if which != wantWhich || gen != wantGen || string(body) != wantBody || e != want {
			t.Fatalf("%d: %x, %x: %d, %d, %q, %d; not %d, %d, %q, %d", i, a, b, which, gen, body, e, wantWhich, wantGen, wantBody, want)
		}
	}
	if took < 5000 || took > 18000 {
		t.Errorf("%d of them were slots", took)
	}
}
