package slot_test

import (
	"slices"
	"testing"

	"pandect/slot"
)

func TestP41BetterExample(t *testing.T) {
	neither(t, make([]byte, 128), make([]byte, 128), "noughts")
	neither(t, make([]byte, 256), make([]byte, 256), "noughts")
	neither(t, nil, nil, "nothing")
	neither(t, []byte{}, make([]byte, 128), "nothing, noughts")
}

func TestP41TheGreaterGen(t *testing.T) {
	for i, x := range gens() {
		for j, y := range gens() {
			a, b := whole(x, []byte("a")), whole(y, []byte("b"))
			if j > i {
				better(t, a, b, 1, y, "b")
			} else {
				better(t, a, b, 0, x, "a")
			}
		}
	}
}

func TestP41OfOneGen(t *testing.T) {
	for _, gen := range gens() {
		better(t, whole(gen, []byte("a")), whole(gen, []byte("longer")), 0, gen, "a")
		better(t, whole(gen, []byte("longer")), whole(gen, []byte("a")), 0, gen, "longer")
		one := whole(gen, nil)
		better(t, one, one, 0, gen, "")
	}
}

// One that is no slot is not the better one, whatever generation stands in it.
func TestP41OneIsSpoiled(t *testing.T) {
	for _, gen := range []uint64{0, 1, 5, 1<<64 - 1} {
		good := whole(gen, []byte("good"))
		for _, other := range []uint64{0, 5, 1<<64 - 1} {
			for _, bad := range spoiled(whole(other, []byte("bad"))) {
				better(t, good, bad, 0, gen, "good")
				better(t, bad, good, 1, gen, "good")
			}
		}
		better(t, good, make([]byte, 1<<16), 0, gen, "good")
	}
}

func TestP41BothAreSpoiled(t *testing.T) {
	for why, a := range spoiled(whole(8, []byte("eight"))) {
		none(t, a, why)
		for also, b := range spoiled(whole(9, []byte("nine"))) {
			neither(t, a, b, why+"; "+also)
		}
	}
}

// What follows: one of two holds, as long as they are written by turns. A
// write that breaks off anywhere leaves the one ahead of it, or is done.
func TestP4OneOfTwoHolds(t *testing.T) {
	places := [2][]byte{make([]byte, 128), make([]byte, 128)}
	was := ""
	for gen := range uint64(12) {
		body := string(drawn(int(gen * 10)))
		next, old := put(t, gen, []byte(body)), places[gen%2]
		for k := range len(next) {
			for _, torn := range [][]byte{slices.Concat(next[:k], old[k:]), slices.Concat(old[:k], next[k:])} {
				places[gen%2] = torn
				if slices.Equal(torn, next) {
					better(t, places[0], places[1], int(gen%2), gen, body)
				} else if gen == 0 {
					neither(t, places[0], places[1], "the first one is torn")
				} else {
					better(t, places[0], places[1], int(1-gen%2), gen-1, was)
				}
			}
		}
		places[gen%2] = next
		better(t, places[0], places[1], int(gen%2), gen, body)
		was = body
	}
}

// What is told goes by the two alone: the same bytes in other lists, and asked
// again, tell the same.
func TestR4Same(t *testing.T) {
	a, b := put(t, 1, []byte("a")), put(t, 2, []byte("b"))
	for range 3 {
		none(t, a[:127], "cut off")
		slot.Put(3, make([]byte, 200))
		better(t, a, b, 1, 2, "b")
		better(t, slices.Clone(b), slices.Clone(a), 0, 2, "b")
		takes(t, a, 1, []byte("a"))
		if again := put(t, 1, []byte("a")); !slices.Equal(again, a) {
			t.Errorf("%x, not %x", again, a)
		}
	}
}
