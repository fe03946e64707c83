package plan_test

import (
	"fmt"
	"math"
	"math/rand/v2"
	"testing"

	"pandect/api"
)

// One event to a new stream: version 0.
func TestP171EventsOfANewStream(t *testing.T) {
	c := commit("", part("a", none, "t"))
	comesTo(t, c, empty(c, 7), []api.Event{{Seq: 7, Stream: "a", Version: 0, Type: "t", Data: []byte("a 0")}})
}

func TestP171EventsPartByPart(t *testing.T) {
	c := commit("id", part("b", 4, "t", "u"), part("a", none, "t"), part("c", whatever, "v"))
	s := state{heads: []api.Head{{Next: 5, First: 2}, {}, {Next: 9}}, there: []bool{true, false, true}, next: 100}
	comesTo(t, c, s, []api.Event{
		{Seq: 100, Stream: "b", Version: 5, Type: "t", Data: []byte("b 0")},
		{Seq: 101, Stream: "b", Version: 6, Type: "u", Data: []byte("b 1")},
		{Seq: 102, Stream: "a", Version: 0, Type: "t", Data: []byte("a 0")},
		{Seq: 103, Stream: "c", Version: 9, Type: "v", Data: []byte("c 0")},
	})
}

// Each number of events in each part, of streams that are there, or not, or some.
func TestP171EventsOfEachShape(t *testing.T) {
	for _, counts := range shapes(mostParts) {
		c := shaped(counts...)
		for _, next := range []int64{0, 1, 1000} {
			s := grown(c, next)
			comesTo(t, c, s, plainEvents(c, s))
			s.there[len(counts)/2] = false
			comesTo(t, c, s, plainEvents(c, s))
			s = empty(c, next)
			comesTo(t, c, s, plainEvents(c, s))
		}
	}
	comesTo(t, greatest(), grown(greatest(), 1), plainEvents(greatest(), grown(greatest(), 1)))
}

// Versions go on from each Next, but of a stream that is not there from 0, whatever
// stands for its head.
func TestP171EventsVersions(t *testing.T) {
	for _, next := range []int64{0, 1, 5, 255, 256, 1 << 32, math.MaxInt64 - 5} {
		for i := range mostParts {
			c := shaped(2, 5, 1, 4)
			s := grown(c, 1)
			s.heads[i] = api.Head{Next: next, First: next / 2}
			comesTo(t, c, s, plainEvents(c, s))
			l, _, _ := s.events(c)
			if at := []int{0, 2, 7, 8}[i]; l[at].Version != next {
				t.Errorf("%d: %d", next, l[at].Version)
			}
			s.there[i] = false
			comesTo(t, c, s, plainEvents(c, s))
		}
	}
}

// Whether a commit has an ID makes its events no others.
func TestP171EventsOfIDs(t *testing.T) {
	for _, id := range []string{"", "i", "id", "0123456789abcdef"} {
		c := shaped(2, 3)
		c.ID = id
		comesTo(t, c, grown(c, 9), plainEvents(c, grown(c, 9)))
	}
}

// Each length of data, and none.
func TestP171EventsData(t *testing.T) {
	for n := range mostData + 1 {
		c := shaped(1, 2)
		c.Parts[1].Events[n%2].Data = bytesOf(n)
		comesTo(t, c, empty(c, 1), plainEvents(c, empty(c, 1)))
	}
}

func TestP171EventsOfListsOfOtherLengths(t *testing.T) {
	for n := 1; n <= mostParts; n++ {
		c := shaped([]int{1, 2, 3, 4}[:n]...)
		for i := range 7 {
			for j := range 7 {
				s := state{heads: make([]api.Head, i), there: make([]bool, j), next: 1}
				if i == n && j == n {
					comesTo(t, c, s, plainEvents(c, s))
				} else {
					refused(t, c, s, api.ErrArg)
				}
			}
		}
	}
	refused(t, commit(""), state{next: 1}, api.ErrArg)
}

// Each thing that is expected, of each head.
func TestP171EventsExpect(t *testing.T) {
	tells := map[api.Errno]int{}
	for _, expect := range edges()[4:] {
		for _, next := range edges() {
			for _, there := range []bool{false, true} {
				for _, tomb := range []bool{false, true} {
					c := commit("", part("a", expect, "t"))
					s := state{heads: []api.Head{{Next: next, Tomb: tomb}}, there: []bool{there}, next: 1}
					tells[asPlain(t, c, s)]++
				}
			}
		}
	}
	if tells[api.OK] < 40 || tells[api.ErrTomb] < 40 || tells[api.ErrWrong] < 40 {
		t.Errorf("%v", tells)
	}
}

func TestP171EventsWrong(t *testing.T) {
	for _, x := range []struct {
		expect, next int64
		there        bool
		want         api.Errno
	}{
		{none, 0, false, api.OK},
		{none, 0, true, api.ErrWrong},
		{none, 1, true, api.ErrWrong},
		{whatever, 0, false, api.OK},
		{whatever, 0, true, api.OK},
		{whatever, 8, true, api.OK},
		{0, 0, false, api.ErrWrong},
		{0, 1, false, api.ErrWrong},
		{0, 0, true, api.ErrWrong},
		{0, 1, true, api.OK},
		{0, 2, true, api.ErrWrong},
		{7, 7, true, api.ErrWrong},
		{7, 8, true, api.OK},
		{7, 8, false, api.ErrWrong},
		{7, 9, true, api.ErrWrong},
		{math.MaxInt64 - 1, math.MaxInt64, true, api.OK},
		{math.MaxInt64, math.MaxInt64, true, api.ErrWrong},
		{math.MaxInt64, math.MinInt64, true, api.ErrWrong},
	} {
		for i := range mostParts {
			c := shaped(1, 1, 1, 1)
			s := empty(c, 1)
			c.Parts[i].Expect, s.heads[i].Next, s.there[i] = x.expect, x.next, x.there
			if _, _, e := s.events(c); e != x.want {
				t.Errorf("%v: %d", x, e)
			}
		}
	}
}

// Of each two faults in two parts the first part's is told, of two in one part the
// tomb, and ahead of both that the commit or a list may not be.
func TestP171EventsTheFirstFault(t *testing.T) {
	tomb := func(c *api.Commit, s *state, i int) { s.heads[i].Tomb = true }
	wrong := func(c *api.Commit, s *state, i int) { c.Parts[i].Expect = 3 }
	isThere := func(c *api.Commit, s *state, i int) { c.Parts[i].Expect = none }
	isNot := func(c *api.Commit, s *state, i int) { c.Parts[i].Expect, s.there[i] = 0, false }
	both := func(c *api.Commit, s *state, i int) { tomb(c, s, i); wrong(c, s, i) }
	faults := []func(c *api.Commit, s *state, i int){tomb, wrong, isThere, isNot, both}
	tells := []api.Errno{api.ErrTomb, api.ErrWrong, api.ErrWrong, api.ErrWrong, api.ErrTomb}
	for n, fault := range faults {
		for i := range mostParts {
			for m, other := range faults {
				for j := range mostParts {
					for _, next := range []int64{1, mostSeq} {
						c := shaped(1, 2, 1, 1)
						s := grown(c, next)
						other(&c, &s, j)
						if i != j {
							fault(&c, &s, i)
						}
						want := tells[m]
						if i < j {
							want = tells[n]
						}
						refused(t, c, s, want)
						c.ID = " "
						refused(t, c, s, api.ErrArg)
						c.ID = ""
						s.there = s.there[1:]
						refused(t, c, s, api.ErrArg)
					}
				}
			}
		}
	}
}

// Each number of events, at the last numbers.
func TestP171EventsOver(t *testing.T) {
	for _, counts := range shapes(mostParts) {
		c := shaped(counts...)
		n := int64(0)
		for _, k := range counts {
			n += int64(k)
		}
		for _, over := range []int64{-2, -1, 0, 1, n} {
			s := grown(c, mostSeq-n+over)
			if over > 0 {
				refused(t, c, s, api.ErrOver)
			} else {
				comesTo(t, c, s, plainEvents(c, s))
			}
		}
	}
}

// Where numbers run out, a part's fault is told, as it would be where they do not.
func TestP171EventsOverIsLast(t *testing.T) {
	for _, next := range []int64{mostSeq - 1, mostSeq} {
		for i := range mostParts {
			c := shaped(1, 1, 1, 1)
			s := grown(c, next)
			refused(t, c, s, api.ErrOver)
			s.heads[i].Tomb = true
			refused(t, c, s, api.ErrTomb)
			s.heads[i].Tomb, c.Parts[i].Expect = false, 0
			refused(t, c, s, api.ErrWrong)
			c.Parts[i].Events = nil
			refused(t, c, s, api.ErrArg)
		}
	}
}

// drawnPart expects what is right, more often than not.
func drawnPart(l *rand.Rand, stream string, h api.Head, there bool) api.Part {
	p := part(stream, []int64{whatever, none, h.Next - 1, h.Next, 0}[l.IntN(5)])
	if l.IntN(2) == 0 && there {
		p.Expect = h.Next - 1
	}
	for range 1 + l.IntN(mostEvents) {
		p.Events = append(p.Events, api.Fresh{Type: fmt.Sprint("t", l.IntN(4)), Data: bytesOf(l.IntN(9))})
	}
	return p
}

// drawn is a commit and what it finds.
func drawn(l *rand.Rand) (api.Commit, state) {
	var c api.Commit
	s := state{next: l.Int64N(1000)}
	if l.IntN(20) == 0 {
		s.next = mostSeq - l.Int64N(20)
	}
	for i, n := range l.Perm(9)[:1+l.IntN(mostParts)] {
		h := api.Head{Tomb: l.IntN(40) == 0}
		s.there = append(s.there, l.IntN(3) > 0)
		if s.there[i] {
			h.Next = 1 + l.Int64N(9)
			h.First = l.Int64N(h.Next + 1)
		}
		s.heads = append(s.heads, h)
		c.Parts = append(c.Parts, drawnPart(l, fmt.Sprint("s", n), h, s.there[i]))
	}
	if l.IntN(2) == 0 {
		c.ID = fmt.Sprint("i", l.IntN(9))
	}
	return c, s
}

func TestP171EventsAsThePlainOne(t *testing.T) {
	l, tells := lot(1), map[api.Errno]int{}
	for range 20_000 {
		c, s := drawn(l)
		tells[asPlain(t, c, s)]++
	}
	if tells[api.OK] < 2000 || tells[api.ErrTomb] < 200 || tells[api.ErrWrong] < 2000 || tells[api.ErrOver] < 50 {
		t.Errorf("%v", tells)
	}
}
