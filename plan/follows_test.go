package plan_test

import (
	"fmt"
	"slices"
	"testing"

	"pandect/api"
	"pandect/head"
	"pandect/key"
	"pandect/plan"
)

// A store keeps what is put, each tree as a map.
type store struct {
	next   int64
	trees  [api.Trees]map[string]string
	events []api.Event
}

func newStore(next int64) *store {
	b := &store{next: next}
	for tree := range b.trees {
		b.trees[tree] = map[string]string{}
	}
	return b
}

// finds tells what a commit finds, as the store would.
func (b *store) finds(t *testing.T, c api.Commit) state {
	t.Helper()
	s := empty(c, b.next)
	for i, p := range c.Parts {
		val, there := b.trees[api.ByHead][string(key.Head(p.Stream))]
		if s.there[i] = there; there {
			h, e := head.TakeHead([]byte(val))
			if e != api.OK {
				t.Fatalf("%q: %d", val, e)
			}
			s.heads[i] = h
		}
	}
	return s
}

// appends does a commit. Each event lies at its place among all.
func (b *store) appends(t *testing.T, c api.Commit) api.Errno {
	t.Helper()
	s := b.finds(t, c)
	l, d, e := s.events(c)
	if e != api.OK {
		return e
	}
	var offs []int64
	for i := range l {
		offs = append(offs, int64(len(b.events)+i))
	}
	for tree, changes := range plan.Puts(c, s.heads, l, offs) {
		for _, change := range changes {
			b.trees[tree][string(change.Key)] = string(change.Val)
		}
	}
	b.events = append(b.events, l...)
	b.next = d.First + int64(d.Count)
	return api.OK
}

// lies tells which event a tree has there.
func (b *store) lies(t *testing.T, tree int, k []byte) api.Event {
	t.Helper()
	off, e := head.TakeOff([]byte(b.trees[tree][string(k)]))
	if e != api.OK {
		t.Fatalf("%d, %q: %d", tree, k, e)
	}
	return b.events[off]
}

// Sequence numbers rise by one, as do the versions of each stream, whatever commits
// there are; and each event is found under each of its keys.
func TestWhatFollowsNumbersRiseByOne(t *testing.T) {
	for seed := range 20 {
		l := lot(100 + seed)
		first := l.Int64N(300)
		b := newStore(first)
		for range 200 {
			c, _ := drawn(l)
			for i := range c.Parts {
				if l.IntN(3) > 0 {
					c.Parts[i].Expect = whatever
				}
			}
			b.appends(t, c)
		}
		if len(b.events) < 300 {
			t.Fatalf("%d events", len(b.events))
		}
		versions := map[string]int64{}
		for i, e := range b.events {
			if e.Seq != first+int64(i) || e.Version != versions[e.Stream] {
				t.Fatalf("%d: %v", i, e)
			}
			versions[e.Stream]++
			for tree, k := range [][]byte{key.Stream(e.Stream, e.Version), key.Seq(e.Seq), key.Type(e.Type, e.Seq)} {
				if got := b.lies(t, tree, k); told([]api.Event{got}) != told([]api.Event{e}) {
					t.Fatalf("%d: %v, not %v", tree, got, e)
				}
			}
		}
		for tree := range api.ByHead {
			if len(b.trees[tree]) != len(b.events) {
				t.Errorf("%d: %d of %d", tree, len(b.trees[tree]), len(b.events))
			}
		}
	}
}

// Who expects the version that an answer tells is never wrong; who expects it twice is.
func TestWhatFollowsVersionsAreExpected(t *testing.T) {
	b := newStore(1)
	version := int64(none)
	for n := range 30 {
		c := commit("", part("a", version, slices.Repeat([]string{"t"}, 1+n%mostEvents)...), part(fmt.Sprint("b", n), none, "u"))
		if e := b.appends(t, c); e != api.OK {
			t.Fatalf("%d: %d", n, e)
		}
		if e := b.appends(t, commit("", c.Parts[0])); e != api.ErrWrong {
			t.Fatalf("%d: %d", n, e)
		}
		if e := b.appends(t, commit("", c.Parts[1])); e != api.ErrWrong {
			t.Fatalf("%d: %d", n, e)
		}
		version = max(version, -1) + int64(1+n%mostEvents)
	}
}
