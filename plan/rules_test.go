package plan_test

import (
	"bytes"
	"math"
	"slices"
	"strings"
	"sync"
	"testing"

	"pandect/api"
	"pandect/plan"
)

// odd are commits that may not be, and some that may.
func odd() []api.Commit {
	long := strings.Repeat("a", 1<<16)
	all := []api.Commit{
		{}, {ID: long}, {Parts: make([]api.Part, 1<<16)}, commit(long, part(long, 0, long)), greatest(), shaped(5, 5, 5, 5), shaped(1),
		shaped(0, 0), shaped(1, 0, 1), shaped(1<<16, 1<<16), commit("", part("a", math.MinInt64, "t"), part("a", math.MaxInt64, "t")),
		commit("\x00", part("\x00", 0, "\x00")), {Parts: []api.Part{{Stream: "a", Events: []api.Fresh{{Type: "t", Data: make([]byte, 1<<20)}}}}},
	}
	return append(all, shaped(1, 2, 3, 4, 5, 6, 7))
}

// Whatever is handed in, in whatever lists, there is an end to it.
func TestR1NonePanics(t *testing.T) {
	events := []api.Event{{}, {Seq: -1, Version: -1}, {Seq: math.MaxInt64, Version: math.MaxInt64, Stream: "s0", Type: "t", Data: bytesOf(300)}, {Seq: math.MinInt64, Version: math.MinInt64}}
	for _, c := range odd() {
		plan.MayCommit(c)
		for _, n := range edges() {
			for size := range 6 {
				heads, there := slices.Repeat([]api.Head{{Next: n, First: n / 2}}, size), slices.Repeat([]bool{size%2 == 0}, size)
				l, _, _ := plan.Events(c, heads, there, n)
				plan.Events(c, nil, there, n)
				plan.Events(c, heads, nil, n)
				for _, l := range [][]api.Event{nil, l, events, slices.Repeat(events, 5), slices.Repeat(events[:1], len(l))} {
					for _, offs := range [][]int64{nil, {n}, slices.Repeat([]int64{n}, len(l)), slices.Repeat([]int64{n}, len(l)+1)} {
						plan.Puts(c, heads, l, offs)
						plan.Puts(c, nil, l, offs)
					}
				}
			}
		}
	}
}

// withRoom is a commit, and what it finds, in memory that goes on behind each list;
// and what tells whether that is as it was.
func withRoom(c api.Commit, s state) (api.Commit, state, func(t *testing.T)) {
	c, s = copied(c), s.copied()
	room := make([]byte, 0, 1<<12)
	for i := range c.Parts {
		for j := range c.Parts[i].Events {
			f := &c.Parts[i].Events[j]
			from := len(room)
			room = append(append(room, f.Data...), "spare room"...)
			f.Data = room[from : from+len(f.Data)]
		}
		n := len(c.Parts[i].Events)
		c.Parts[i].Events = append(c.Parts[i].Events, api.Fresh{Type: "spare"}, api.Fresh{})[:n]
	}
	n := len(c.Parts)
	c.Parts = append(c.Parts, part("spare", 5, "t"), api.Part{})[:n]
	s.heads = append(s.heads, api.Head{Next: 77}, api.Head{})[:n]
	s.there = append(s.there, true, true)[:n]
	was, wasCommit, wasState := string(room), tellAll(c), s.copied()
	wasHeads, wasThere := slices.Clone(s.heads[:n+2]), slices.Clone(s.there[:n+2])
	return c, s, func(t *testing.T) {
		t.Helper()
		if string(room) != was || tellAll(c) != wasCommit || !slices.Equal(s.heads[:n+2], wasHeads) || !slices.Equal(s.there[:n+2], wasThere) {
			t.Fatalf("%s, %v became %s, %v", wasCommit, wasState, tellAll(c), s)
		}
	}
}

// tellAll tells the commit and its spare room of parts and events.
func tellAll(c api.Commit) string {
	var s strings.Builder
	s.WriteString(c.ID)
	for _, p := range c.Parts[:len(c.Parts)+1] {
		s.WriteString("; " + p.Stream + eight(p.Expect))
		for _, f := range p.Events[:min(len(p.Events)+1, cap(p.Events))] {
			s.WriteString(", " + f.Type + " " + string(f.Data))
		}
	}
	return s.String()
}

func TestR3WhatIsHandedInStays(t *testing.T) {
	l := lot(3)
	for range 2000 {
		c, s, stays := withRoom(drawn(l))
		plan.MayCommit(c)
		events, _, e := s.events(c)
		stays(t)
		if e != api.OK {
			continue
		}
		offs := append(offsOf(len(events)), 99, 98)
		events = append(events, api.Event{Seq: 99}, api.Event{Seq: 98})
		was, wasOffs := told(events), slices.Clone(offs)
		plan.Puts(c, s.heads, events[:len(events)-2], offs[:len(offs)-2])
		stays(t)
		if told(events) != was || !slices.Equal(offs, wasOffs) {
			t.Fatalf("%s, %v became %s, %v", was, wasOffs, told(events), offs)
		}
	}
}

// overwrite turns all that is to be reached through events, spare room too.
func overwrite(l []api.Event) {
	for _, e := range l {
		b := e.Data[:cap(e.Data)]
		copy(b, bytes.Repeat([]byte{'#'}, len(b)))
	}
	clear(l[:cap(l)])
}

func overwriteTrees(trees [api.Trees][]api.Change) {
	for _, l := range trees {
		for _, c := range l {
			clear(c.Key[:cap(c.Key)])
			clear(c.Val[:cap(c.Val)])
		}
		clear(l[:cap(l)])
	}
}

// An answer is new: what is done to it turns nothing that was handed in, nor another
// answer; and the other way round.
func TestR3NothingIsShared(t *testing.T) {
	l := lot(4)
	for range 2000 {
		c, s, stays := withRoom(drawn(l))
		first, _, e := s.events(c)
		if e != api.OK {
			continue
		}
		second, _, _ := s.events(c)
		want := told(first)
		overwrite(first)
		stays(t)
		if told(second) != want {
			t.Fatalf("%s is not new", want)
		}
		offs := offsOf(len(second))
		trees, others := plan.Puts(c, s.heads, second, offs), plan.Puts(c, s.heads, second, offs)
		wantTrees := toldTrees(trees)
		overwriteTrees(trees)
		stays(t)
		if toldTrees(others) != wantTrees || told(second) != want {
			t.Fatalf("%s is not new", wantTrees)
		}
		for _, p := range c.Parts {
			for _, f := range p.Events {
				clear(f.Data[:cap(f.Data)])
			}
			clear(p.Events)
		}
		clear(c.Parts)
		clear(s.heads)
		clear(s.there)
		clear(offs)
		if told(second) != want {
			t.Fatalf("%s became %s", want, told(second))
		}
		overwrite(second)
		if toldTrees(others) != wantTrees {
			t.Fatalf("%s became %s", wantTrees, toldTrees(others))
		}
	}
}

// No two texts of an answer lie in one memory, though those do that were handed in.
func TestR3NoTwoShare(t *testing.T) {
	data := []byte("data of all of them")
	c := shaped(2, 3, 1)
	for i := range c.Parts {
		for j := range c.Parts[i].Events {
			c.Parts[i].Events[j].Data = data[:4+i+j]
		}
	}
	s := grown(c, 1)
	want := plainEvents(c, s)
	for i := range want {
		l, _, _ := s.events(c)
		b := l[i].Data[:cap(l[i].Data)]
		was := string(l[i].Data)
		clear(b)
		l[i].Data = []byte(was)
		if told(l) != told(want) {
			t.Errorf("%d: %s, not %s", i, told(l), told(want))
		}
	}
	offs := []int64{9, 9, 9, 9, 9, 9}
	puts := plan.Puts(c, s.heads, want, offs)
	for tree := range puts {
		for i := range puts[tree] {
			for _, of := range []func(*api.Change) *[]byte{func(c *api.Change) *[]byte { return &c.Key }, func(c *api.Change) *[]byte { return &c.Val }} {
				trees := plan.Puts(c, s.heads, want, offs)
				b := of(&trees[tree][i])
				was := string(*b)
				clear((*b)[:cap(*b)])
				*b = []byte(was)
				if toldTrees(trees) != toldTrees(puts) {
					t.Errorf("%d, %d: %s, not %s", tree, i, toldTrees(trees), toldTrees(puts))
				}
			}
		}
		trees := plan.Puts(c, s.heads, want, offs)
		_ = append(trees[tree], put("#", "#"), put("#", "#"))
		clear(trees[tree])
		trees[tree] = puts[tree]
		if toldTrees(trees) != toldTrees(puts) {
			t.Errorf("%d: %s, not %s", tree, toldTrees(trees), toldTrees(puts))
		}
	}
}

// nil and an empty list are one.
func TestR3NilAndAnEmptyListAreOne(t *testing.T) {
	a, b := shaped(1, 2), shaped(1, 2)
	for i := range a.Parts {
		for j := range a.Parts[i].Events {
			a.Parts[i].Events[j].Data, b.Parts[i].Events[j].Data = nil, []byte{}
		}
	}
	for _, c := range []api.Commit{a, b} {
		may(t, c, true)
		comesTo(t, c, empty(c, 1), plainEvents(c, empty(c, 1)))
		l, _, _ := empty(c, 1).events(c)
		for _, e := range l {
			if e.Data != nil {
				t.Errorf("%v: its data are not as the others'", e)
			}
		}
	}
	may(t, api.Commit{Parts: []api.Part{}}, false)
	may(t, commit("", api.Part{Stream: "a", Events: []api.Fresh{}}), false)
	for _, s := range []state{{}, {heads: []api.Head{}, there: []bool{}}} {
		refused(t, a, s, api.ErrArg)
		refused(t, api.Commit{}, s, api.ErrArg)
	}
}

// An answer hangs on what was handed in alone: not on what was asked ahead of it or
// beside it.
func TestR4Same(t *testing.T) {
	c := shaped(1, 5, 2)
	s := grown(c, 33)
	var wait sync.WaitGroup
	for i := range 8 {
		wait.Go(func() {
			l := lot(i)
			for range 500 {
				other, found := drawn(l)
				if plainRefusal(other, found) == api.OK {
					lays(t, other, found, offsOf(len(plainEvents(other, found))))
				}
				asPlain(t, other, found)
				comesTo(t, c, s, plainEvents(c, s))
				lays(t, c, s, offsOf(8))
				may(t, c, true)
				refused(t, c, state{}, api.ErrArg)
			}
		})
	}
	wait.Wait()
}
