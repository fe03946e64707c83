package batch_test

import (
	"math/rand/v2"
	"slices"
	"testing"

	"pandect/api"
)

// Of three leaves of few, of some and of many items as few go as may be, or all, or
// any number in between.
func TestP131OutOfEachLeaf(t *testing.T) {
	t.Parallel()
	sizes := []int{least, least + 1, fan}
	for which := range 27 {
		a, b, c := sizes[which%3], sizes[which/3%3], sizes[which/9]
		keys := numbered(a + b + c)
		d, f := fresh(t)
		r := leavesOf(t, f, keys, a, b, c)
		for i := range a + 1 {
			for j := range b + 1 {
				for k := range c + 1 {
					l := outs(slices.Concat(keys[:i], keys[a:a+j], keys[a+b+c-k:])...)
					updates(t, d, f, r, l)
				}
			}
		}
	}
}

// Each run of keys that follow one another goes: in between, nodes of all heights are
// left alone, or small.
func TestP131OutInRuns(t *testing.T) {
	t.Parallel()
	for high := 1; high <= 4; high++ {
		_, g := fresh(t)
		_, keys := smallest(t, g, high)
		for i := range keys {
			d, f := fresh(t)
			r, _ := smallest(t, f, high)
			step := 1
			if high == 4 {
				step = 1 + i%3
			}
			for j := i + 1; j <= len(keys); j += step {
				updates(t, d, f, r, outs(keys[i:j]...))
			}
		}
	}
}

// All go but one run.
func TestP131OutAroundRuns(t *testing.T) {
	t.Parallel()
	for high := 2; high <= 4; high++ {
		for i := range fewest(high) {
			d, f := fresh(t)
			r, keys := smallest(t, f, high)
			for n := 1; n <= 20 && i+n <= len(keys); n += 1 + (n+i)%4 {
				l := outs(slices.Concat(keys[:i], keys[i+n:])...)
				updates(t, d, f, r, l)
				got, _ := updates(t, d, f, r, slices.Insert(l, i, put(keys[i], "other")))
				updates(t, d, f, got, puts(keys...))
			}
		}
	}
}

// Few come at each place, or many: full leaves are parted, up to the root.
func TestP131Between(t *testing.T) {
	t.Parallel()
	for high := 1; high <= 3; high++ {
		for _, full := range []bool{false, true} {
			keys := numbered(fewest(high))
			if full {
				keys = numbered(power(fan, high))
			}
			for i := 0; i < len(keys); i += 1 + len(keys)/40 {
				d, f := fresh(t)
				r := grown(t, f, lot(i), keys, high, 2)
				for _, n := range []int{1, 2, 3, 7, 8, 9, 63, 64, 65, 200} {
					var more []string
					for _, key := range numbered(n) {
						more = append(more, keys[i]+key)
					}
					updates(t, d, f, r, puts(more...))
					updates(t, d, f, r, append(outs(keys[i]), puts(more...)...))
				}
			}
		}
	}
}

// One by one they go, or come, in whatever order.
func TestP131OneByOne(t *testing.T) {
	t.Parallel()
	keys := numbered(150)
	for i, order := range orders(lot(2), len(keys)) {
		d, f := fresh(t)
		var r api.Ref
		for _, at := range order {
			r, _ = updates(t, d, f, r, puts(keys[at]))
		}
		for _, at := range orders(lot(i), len(keys))[i] {
			r, _ = updates(t, d, f, r, outs(keys[at]))
		}
		if r != (api.Ref{}) {
			t.Error(r)
		}
	}
}

// orders are those of n things: rising, falling, from both ends, two that are drawn.
func orders(l *rand.Rand, n int) [][]int {
	var up, down, ends []int
	for i := range n {
		up, down, ends = append(up, i), append(down, n-1-i), append(ends, i/2)
		if i%2 == 1 {
			ends[i] = n - 1 - i/2
		}
	}
	return [][]int{up, down, ends, l.Perm(n), l.Perm(n)}
}

// Whatever shape a right tree has, and whatever is changed in it: many, few, in some
// place alone.
func TestP131AsThePlainOne(t *testing.T) {
	t.Parallel()
	l := lot(3)
	for i := range 6000 {
		d, f := fresh(t)
		high := 1 + i%4
		lo, hi := fewest(high), min(power(fan, high), 300)
		keys := numbered(lo + l.IntN(1+l.IntN(hi-lo+1)))
		r := grown(t, f, l, keys, high, 2)
		updates(t, d, f, r, drawnOf(l, keys))
		if t.Failed() {
			t.Fatalf("the %d-th", i)
		}
	}
}

// Trees that are as deep as there is time for.
func TestP131Deep(t *testing.T) {
	t.Parallel()
	l := lot(4)
	for high := 5; high <= 7; high++ {
		d, f := fresh(t)
		r, keys := smallest(t, f, high)
		for range []int{40, 20, 5}[high-5] {
			updates(t, d, f, r, drawnOf(l, keys))
			from := l.IntN(len(keys))
			updates(t, d, f, r, outs(keys[from:from+l.IntN(len(keys)-from+1)]...))
		}
	}
}

// drawnOf are changes of the keys and of those next to them, in a part of them: there,
// of a hundred so many are changed, and so many of these are out.
func drawnOf(l *rand.Rand, keys []string) []api.Change {
	from := l.IntN(len(keys))
	to := from + 1 + l.IntN(len(keys)-from)
	changed, out := 1+l.IntN(100), []int{0, 30, 70, 95, 100}[l.IntN(5)]
	var of []string
	for i, key := range keys {
		if i >= from && i < to && l.IntN(100) < changed {
			of = append(of, key)
		}
		if l.IntN(10) == 0 {
			of = append(of, key+"\x00")
		}
	}
	return drawnChanges(l, of, out, "~")
}

// Round by round a tree grows and shrinks again, many rounds.
func TestP131Rounds(t *testing.T) {
	t.Parallel()
	for seed := range 8 {
		l := lot(10 + seed)
		d, f := fresh(t)
		var r api.Ref
		for round := range 150 {
			outs := []int{10, 30, 60, 95}[round/10%4]
			most := []int{3, 30, 150, 600}[seed%4]
			r, _ = updates(t, d, f, r, drawnChanges(l, drawnKeys(l, most, 5), outs, string(rune('a'+round%26))))
		}
	}
}
