package root_test

import (
	"bytes"
	"encoding/binary"
	"math"
	"math/rand/v2"
	"testing"

	"pandect/api"
	"pandect/root"
)

// How many trees there are, and how many bytes a root has.
const (
	trees = 5
	size  = 8 + trees*16
)

func lot(seed int) *rand.Rand { return rand.New(rand.NewPCG(uint64(seed), 10)) }

// drawn makes n bytes, the same ones each time.
func drawn(n int) []byte {
	l := lot(n)
	b := make([]byte, n)
	for i := range b {
		b[i] = byte(l.IntN(256))
	}
	return b
}

// eight is a number's bytes, the highest first.
func eight(n uint64) string { return string(binary.BigEndian.AppendUint64(nil, n)) }

// laid is what the document says of a root's bytes, whether it may be or not.
func laid(r api.Root) string {
	s := eight(uint64(r.Next))
	for _, t := range r.T {
		s += eight(uint64(t.Off)) + eight(t.Count)
	}
	return s
}

// plain takes a root as the document tells it, another way.
func plain(gen uint64, b []byte) (api.Root, bool) {
	var f struct {
		Next int64
		T    [trees]api.Ref
	}
	if len(b) != binary.Size(&f) || binary.Read(bytes.NewReader(b), binary.BigEndian, &f) != nil || f.Next < 0 {
		return api.Root{}, false
	}
	for _, t := range f.T {
		if t.Off < 0 || t.Off > 0 && t.Count == 0 || t.Off == 0 && t.Count > 0 {
			return api.Root{}, false
		}
	}
	return api.Root{Gen: gen, Next: f.Next, T: f.T}, true
}

// gens are generations: the least, the greatest, and those at which a bit turns.
func gens() []uint64 {
	out := []uint64{0, 3, 258, 0x0102030405060708, math.MaxInt64, math.MaxUint64 - 1, math.MaxUint64}
	for i := range 64 {
		out = append(out, 1<<i)
	}
	return out
}

// numbers are those that an Off may be, but for nought: the least, the greatest,
// and those at which a byte turns.
func numbers() []int64 {
	out := []int64{3, 100, 258, 0x0102030405060708, math.MaxInt64 - 1, math.MaxInt64}
	for i := range 63 {
		out = append(out, 1<<i)
		if i%8 == 0 && i > 0 {
			out = append(out, 1<<i-1, 1<<i+1)
		}
	}
	return out
}

func noNumbers() []int64 {
	return []int64{-1, -2, -255, -256, -257, -1 << 32, math.MinInt64, math.MinInt64 + 1}
}

// counts are those that a tree which is not empty may have: any but nought.
func counts() []uint64 {
	out := []uint64{1<<40 + 1, 1<<63 + 1, math.MaxUint64 - 1, math.MaxUint64, 1 << 63}
	for _, n := range numbers() {
		out = append(out, uint64(n))
	}
	return out
}

// full is a root without an empty tree. No two of its numbers are alike, nor are
// two bytes of one number.
func full() api.Root {
	r := api.Root{Gen: 7, Next: 0x0102030405060708}
	for i := range r.T {
		r.T[i] = api.Ref{Off: 0x1112131415161718 + int64(i)<<56, Count: 0x9192939495969798 + uint64(i)<<56}
	}
	return r
}

// with is r with another tree in that place.
func with(r api.Root, place int, off int64, count uint64) api.Root {
	r.T[place] = api.Ref{Off: off, Count: count}
	return r
}

// some are roots of all edges, that may be: each edge in each place, ahead of and
// behind noughts and trees.
func some() []api.Root {
	out := []api.Root{{}, full(), {Gen: math.MaxUint64}, {Next: math.MaxInt64}}
	for _, from := range []api.Root{{}, full()} {
		for _, n := range numbers() {
			next := from
			next.Next = n
			out = append(out, next)
			for i := range trees {
				out = append(out, with(from, i, n, 1), with(from, i, n, uint64(n)), with(from, i, n, math.MaxUint64))
			}
		}
		for i := range trees {
			out = append(out, with(from, i, 0, 0))
			for _, c := range counts() {
				out = append(out, with(from, i, 1, c), with(from, i, math.MaxInt64, c))
			}
		}
	}
	all := api.Root{Gen: math.MaxUint64, Next: math.MaxInt64}
	for i := range all.T {
		all.T[i] = api.Ref{Off: math.MaxInt64, Count: math.MaxUint64}
	}
	return append(out, all)
}

// not are roots that may not be, each of one fault in one place.
func not() []api.Root {
	var out []api.Root
	for _, from := range []api.Root{{}, full(), {Gen: 1}} {
		for _, no := range noNumbers() {
			next := from
			next.Next = no
			out = append(out, next)
			for i := range trees {
				out = append(out, with(from, i, no, 0), with(from, i, no, 1), with(from, i, no, math.MaxUint64))
			}
		}
		for i := range trees {
			for _, n := range numbers() {
				out = append(out, with(from, i, n, 0))
			}
			for _, c := range counts() {
				out = append(out, with(from, i, 0, c))
			}
		}
	}
	return out
}

// may: r's bytes are those of the document, and it is taken from them.
func may(t *testing.T, r api.Root) {
	t.Helper()
	if b := root.Put(r); string(b) != laid(r) {
		t.Errorf("%v: %x, not %x", r, b, laid(r))
	}
	takes(t, r.Gen, []byte(laid(r)), r)
}

// mayNot: r has no bytes, and those that it would have are none of a root.
func mayNot(t *testing.T, r api.Root) {
	t.Helper()
	if b := root.Put(r); len(b) != 0 {
		t.Errorf("%v: %x", r, b)
	}
	none(t, r.Gen, []byte(laid(r)))
}

func takes(t *testing.T, gen uint64, b []byte, want api.Root) {
	t.Helper()
	if r, e := root.Take(gen, b); e != api.OK || r != want {
		t.Errorf("%x: %v, %d, not %v", b, r, e, want)
	}
}

// none: b are no root's bytes, and nothing is told beside that.
func none(t *testing.T, gen uint64, b []byte) {
	t.Helper()
	if r, e := root.Take(gen, b); e != api.ErrForm || r != (api.Root{}) {
		t.Errorf("%x: %v, %d", b, r, e)
	}
}

// asPlain: Take tells what the plainer one does; and whether it took it.
func asPlain(t *testing.T, gen uint64, b []byte) bool {
	t.Helper()
	want, is := plain(gen, b)
	if is {
		takes(t, gen, b, want)
	} else {
		none(t, gen, b)
	}
	return is
}
