package plan_test

import (
	"fmt"
	"math"
	"slices"
	"strings"
	"testing"

	"pandect/api"
	"pandect/leaf"
	"pandect/plan"
)

// is: a tree's changes are just these.
func is(t *testing.T, got []api.Change, want ...api.Change) {
	t.Helper()
	if got, want := toldTrees([api.Trees][]api.Change{got}), toldTrees([api.Trees][]api.Change{want}); got != want {
		t.Errorf("%s, not %s", got, want)
	}
}

func put(key, val string) api.Change { return api.Change{Key: []byte(key), Val: []byte(val)} }

func TestP172Puts(t *testing.T) {
	c := commit("id", part("b", 4, "u", "t"), part("a", none, "u"))
	s := state{heads: []api.Head{{Next: 5, First: 2}, {}}, there: []bool{true, false}, next: 100}
	l, _, _ := s.events(c)
	trees := plan.Puts(c, s.heads, l, []int64{300, 400, 500})
	off300, off400, off500 := "\x00\x00\x00\x00\x00\x00\x01\x2c", "\x00\x00\x00\x00\x00\x00\x01\x90", "\x00\x00\x00\x00\x00\x00\x01\xf4"
	zeros := "\x00\x00\x00\x00\x00\x00\x00"
	is(t, trees[api.ByStream], put("a\x00"+zeros+"\x00", off500), put("b\x00"+zeros+"\x05", off300), put("b\x00"+zeros+"\x06", off400))
	is(t, trees[api.BySeq], put(zeros+"\x64", off300), put(zeros+"\x65", off400), put(zeros+"\x66", off500))
	is(t, trees[api.ByType], put("t\x00"+zeros+"\x65", off400), put("u\x00"+zeros+"\x64", off300), put("u\x00"+zeros+"\x66", off500))
	is(t, trees[api.ByHead], put("ha", zeros+"\x01"+zeros+"\x00\x00"), put("hb", zeros+"\x07"+zeros+"\x02\x00"), put("iid", zeros+"\x64\x00\x03"))
	is(t, trees[api.ByMark])
}

// Each number of events in each part, of streams that are there, or not, or some.
func TestP172PutsOfEachShape(t *testing.T) {
	for _, counts := range shapes(mostParts) {
		c := shaped(counts...)
		offs := offsOf(len(plainEvents(c, empty(c, 1))))
		s := grown(c, 250)
		lays(t, c, s, offs)
		s.there[len(counts)/2] = false
		lays(t, c, s, offs)
		lays(t, c, empty(c, 0), offs)
	}
}

// Each order of four streams, and of types in a part: names of unlike lengths, some
// of which begin as others do.
func TestP172PutsRise(t *testing.T) {
	all := []string{"a", "a!", "aa", "ab", "b", "!", "~", "Z", "s0", strings.Repeat("a", mostName)}
	for i, a := range all {
		for j, b := range all {
			for k, d := range all {
				if i == j || j == k || k == i {
					continue
				}
				c := commit("zz", part(a, whatever, d, b), part(b, whatever, a, d, a, b, d), part(d, whatever, d))
				for _, s := range []state{empty(c, 254), grown(c, 65534)} {
					lays(t, c, s, offsOf(8))
				}
			}
		}
	}
}

// The greatest of all may be put into trees.
func TestP172PutsOfTheGreatest(t *testing.T) {
	c := greatest()
	n := mostParts * mostEvents
	for _, s := range []state{empty(c, 0), grown(c, 1), grown(c, mostSeq-int64(n))} {
		offs := offsOf(n)
		offs[0], offs[n-1] = math.MaxInt64, 0
		lays(t, c, s, offs)
		l, _, _ := s.events(c)
		for tree, changes := range plan.Puts(c, s.heads, l, offs) {
			if !leaf.Rising(changes) {
				t.Errorf("%d: %v", tree, changes)
			}
		}
	}
}

// Types alike in all parts, in some, in none: the numbers tell them apart.
func TestP172PutsOfTypes(t *testing.T) {
	for n := 1; n <= 4; n++ {
		c := shaped(5, 5, 5, 5)
		for i := range c.Parts {
			for j := range c.Parts[i].Events {
				c.Parts[i].Events[j].Type = fmt.Sprint("t", (i*7+j*3)%n)
			}
		}
		lays(t, c, grown(c, 250), offsOf(20))
	}
}

// Each place goes with its event, not with its key.
func TestP172PutsOffs(t *testing.T) {
	c := commit("id", part("d", whatever, "z", "y"), part("c", whatever, "x"), part("a", whatever, "w", "v", "u"))
	for i := range 6 {
		for _, off := range []int64{0, 1, 255, 256, 1 << 31, 1 << 32, math.MaxInt64 - 1, math.MaxInt64} {
			offs := []int64{60, 50, 40, 30, 20, 10}
			offs[i] = off
			lays(t, c, grown(c, 7), offs)
			slices.Reverse(offs)
			lays(t, c, grown(c, 7), offs)
		}
	}
	lays(t, c, grown(c, 7), []int64{9, 9, 9, 9, 9, 9})
}

// Of each part Next is behind its events, and First as it was.
func TestP172PutsHeads(t *testing.T) {
	for _, h := range []api.Head{{}, {Next: 1}, {Next: 1, First: 1}, {Next: 300, First: 255}, {Next: 1 << 40, First: 1 << 32}, {Next: math.MaxInt64 - 5, First: math.MaxInt64 - 5}} {
		for i := range mostParts {
			for n := 1; n <= mostEvents; n++ {
				counts := []int{2, 5, 1, 3}
				counts[i] = n
				c := shaped(counts...)
				s := grown(c, 9)
				s.heads[i] = h
				lays(t, c, s, offsOf(11+n-[]int{2, 5, 1, 3}[i]))
				s.there[i] = false // whatever stands for its head
				lays(t, c, s, offsOf(11+n-[]int{2, 5, 1, 3}[i]))
			}
		}
	}
}

func TestP172PutsIDs(t *testing.T) {
	for _, id := range []string{"", "i", "s0", "~", "!", strings.Repeat("h", mostName)} {
		for _, counts := range [][]int{{1}, {1, 1}, {5, 5, 5, 5}} {
			c := shaped(counts...)
			c.ID = id
			for _, next := range []int64{0, 1, 256, mostSeq - 20} {
				n := len(plainEvents(c, empty(c, next)))
				lays(t, c, empty(c, next), offsOf(n))
				l, _, _ := empty(c, next).events(c)
				more := 1
				if id == "" {
					more = 0
				}
				if heads := plan.Puts(c, make([]api.Head, len(counts)), l, offsOf(n))[api.ByHead]; len(heads) != len(counts)+more {
					t.Errorf("%q: %v", id, heads)
				}
			}
		}
	}
}

func TestP172PutsAsThePlainOne(t *testing.T) {
	l, laid := lot(2), 0
	for range 20_000 {
		c, s := drawn(l)
		if plainRefusal(c, s) != api.OK {
			continue
		}
		var offs []int64
		for range plainEvents(c, s) {
			offs = append(offs, l.Int64N(math.MaxInt64))
		}
		lays(t, c, s, offs)
		laid++
	}
	if laid < 2000 {
		t.Errorf("%d", laid)
	}
}

// What Events cannot have told changes nothing.
func TestP172PutsOfListsOfOtherLengths(t *testing.T) {
	c := shaped(1, 2)
	s := grown(c, 1)
	l, _, _ := s.events(c)
	for heads := range 5 {
		for events := range 5 {
			for offs := range 5 {
				got := plan.Puts(c, make([]api.Head, heads), append(slices.Clone(l), l...)[:events], make([]int64, offs))
				if whole := heads == 2 && events == 3 && offs == 3; !whole && toldTrees(got) != toldTrees([api.Trees][]api.Change{}) {
					t.Errorf("%d, %d, %d: %s", heads, events, offs, toldTrees(got))
				}
			}
		}
	}
	c.ID = " "
	if got := plan.Puts(c, s.heads, l, make([]int64, 3)); toldTrees(got) != toldTrees([api.Trees][]api.Change{}) {
		t.Errorf("%s", toldTrees(got))
	}
}
