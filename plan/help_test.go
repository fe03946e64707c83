package plan_test

import (
	"encoding/binary"
	"fmt"
	"maps"
	"math"
	"math/rand/v2"
	"slices"
	"strings"
	"testing"

	"pandect/api"
	"pandect/plan"
)

// How long a name and data may be, how many parts and events there may be, what is
// expected beside a version, and the greatest number.
const (
	mostName   = 16
	mostData   = 100
	mostParts  = 4
	mostEvents = 5
	whatever   = -1
	none       = -2
	mostSeq    = math.MaxInt64
)

func lot(seed int) *rand.Rand { return rand.New(rand.NewPCG(uint64(seed), 17)) }

// part is a part whose events' data tell which they are.
func part(stream string, expect int64, types ...string) api.Part {
	p := api.Part{Stream: stream, Expect: expect}
	for i, t := range types {
		p.Events = append(p.Events, api.Fresh{Type: t, Data: fmt.Append(nil, stream, " ", i)})
	}
	return p
}

func commit(id string, parts ...api.Part) api.Commit { return api.Commit{ID: id, Parts: parts} }

// names are n names that are unlike.
func names(n int) []string {
	var l []string
	for i := range n {
		l = append(l, fmt.Sprint("n", i))
	}
	return l
}

// shaped is a commit of so many events in each part, whatever their streams' versions.
func shaped(counts ...int) api.Commit {
	var parts []api.Part
	for i, n := range counts {
		parts = append(parts, part(fmt.Sprint("s", i), whatever, names(n)...))
	}
	return commit("id", parts...)
}

// shapes are all numbers of events in each part, of up to so many parts.
func shapes(parts int) [][]int {
	all := [][]int{nil}
	for from := 0; len(all[from]) < parts; from++ {
		for n := 1; n <= mostEvents; n++ {
			all = append(all, append(slices.Clone(all[from]), n))
		}
	}
	return all[1:]
}

// greatest is the commit beyond which there is none.
func greatest() api.Commit {
	var parts []api.Part
	for i := range mostParts {
		p := api.Part{Stream: strings.Repeat("~", mostName-1) + fmt.Sprint(i), Expect: whatever}
		for j := range mostEvents {
			p.Events = append(p.Events, api.Fresh{Type: strings.Repeat("!", mostName-1) + fmt.Sprint(j), Data: bytesOf(mostData)})
		}
		parts = append(parts, p)
	}
	return commit(strings.Repeat("~", mostName), parts...)
}

// bytesOf is n bytes, others for another n.
func bytesOf(n int) []byte {
	l := lot(n)
	b := make([]byte, n)
	for i := range b {
		b[i] = byte(l.IntN(256))
	}
	return b
}

// copied has memory of its own.
func copied(c api.Commit) api.Commit {
	c.Parts = slices.Clone(c.Parts)
	for i := range c.Parts {
		c.Parts[i].Events = slices.Clone(c.Parts[i].Events)
		for j := range c.Parts[i].Events {
			c.Parts[i].Events[j].Data = slices.Clone(c.Parts[i].Events[j].Data)
		}
	}
	return c
}

// A state is what a commit finds.
type state struct {
	heads []api.Head
	there []bool
	next  int64
}

// empty is what a commit finds in a store without any stream.
func empty(c api.Commit, next int64) state {
	return state{heads: make([]api.Head, len(c.Parts)), there: make([]bool, len(c.Parts)), next: next}
}

// grown is what a commit finds where each of its streams is there.
func grown(c api.Commit, next int64) state {
	s := empty(c, next)
	for i := range c.Parts {
		s.heads[i], s.there[i] = api.Head{Next: int64(10 * (i + 1)), First: int64(i)}, true
	}
	return s
}

func (s state) copied() state {
	return state{heads: slices.Clone(s.heads), there: slices.Clone(s.there), next: s.next}
}

// events asks for them.
func (s state) events(c api.Commit) ([]api.Event, api.Done, api.Errno) {
	return plan.Events(c, s.heads, s.there, s.next)
}

func told(l []api.Event) string {
	var s strings.Builder
	for _, e := range l {
		fmt.Fprintf(&s, "%d: %q %d %q %q; ", e.Seq, e.Stream, e.Version, e.Type, e.Data)
	}
	return s.String()
}

func toldTrees(trees [api.Trees][]api.Change) string {
	var s strings.Builder
	for tree, l := range trees {
		fmt.Fprintf(&s, "%d: ", tree)
		for _, c := range l {
			fmt.Fprintf(&s, "%q: %q %v, ", c.Key, c.Val, c.Out)
		}
	}
	return s.String()
}

// plainEvents tells them as the document does, one by one.
func plainEvents(c api.Commit, s state) []api.Event {
	var l []api.Event
	seq := s.next
	for i, p := range c.Parts {
		for j, f := range p.Events {
			e := api.Event{Seq: seq, Stream: p.Stream, Version: int64(j), Type: f.Type, Data: slices.Clone(f.Data)}
			if s.there[i] {
				e.Version += s.heads[i].Next
			}
			l = append(l, e)
			seq++
		}
	}
	return l
}

// plainRefusal goes by what each part finds, and asks another way.
func plainRefusal(c api.Commit, s state) api.Errno {
	n := int64(0)
	for i, p := range c.Parts {
		n += int64(len(p.Events))
		may := map[int64]bool{whatever: true, none: !s.there[i]}
		if s.there[i] {
			may[max(s.heads[i].Next, 0)-1] = true
		}
		if s.heads[i].Tomb {
			return api.ErrTomb
		}
		if !may[p.Expect] {
			return api.ErrWrong
		}
	}
	if uint64(s.next)+uint64(n) > mostSeq {
		return api.ErrOver
	}
	return api.OK
}

// comesTo: the events are just these, and so is what is answered of them.
func comesTo(t *testing.T, c api.Commit, s state, want []api.Event) {
	t.Helper()
	l, d, e := s.events(c)
	if e != api.OK || told(l) != told(want) {
		t.Fatalf("%v, %v: %d, %s, not %s", c, s, e, told(l), told(want))
	}
	if (d != api.Done{First: s.next, Count: len(want)}) {
		t.Fatalf("%v, %v: %v", c, s, d)
	}
}

// refused: nothing is told but why.
func refused(t *testing.T, c api.Commit, s state, want api.Errno) {
	t.Helper()
	if l, d, e := s.events(c); e != want || len(l) != 0 || d != (api.Done{}) {
		t.Fatalf("%v, %v: %d, not %d, %s, %v", c, s, e, want, told(l), d)
	}
}

// asPlain: it is answered as the plainer one does.
func asPlain(t *testing.T, c api.Commit, s state) api.Errno {
	t.Helper()
	e := plainRefusal(c, s)
	if e != api.OK {
		refused(t, c, s, e)
	} else {
		comesTo(t, c, s, plainEvents(c, s))
	}
	return e
}

func eight(n int64) string { return string(binary.BigEndian.AppendUint64(nil, uint64(n))) }

// plainPuts tells what lies under each key of each tree.
func plainPuts(c api.Commit, s state, l []api.Event, offs []int64) (trees [api.Trees]map[string]string) {
	for tree := range trees {
		trees[tree] = map[string]string{}
	}
	heads := map[string]api.Head{}
	for i, p := range c.Parts {
		if s.there[i] {
			heads[p.Stream] = s.heads[i]
		}
	}
	for i, e := range l {
		trees[api.ByStream][e.Stream+"\x00"+eight(e.Version)] = eight(offs[i])
		trees[api.BySeq][eight(e.Seq)] = eight(offs[i])
		trees[api.ByType][e.Type+"\x00"+eight(e.Seq)] = eight(offs[i])
		h := heads[e.Stream]
		h.Next++
		heads[e.Stream] = h
	}
	for stream, h := range heads {
		trees[api.ByHead]["h"+stream] = eight(h.Next) + eight(h.First) + "\x00"
	}
	if c.ID != "" {
		trees[api.ByHead]["i"+c.ID] = eight(l[0].Seq) + string([]byte{0, byte(len(l))})
	}
	return trees
}

// rowsOf are the changes that put what lies there, each tree's keys rising.
func rowsOf(trees [api.Trees]map[string]string) (rows [api.Trees][]api.Change) {
	for tree, under := range trees {
		for _, key := range slices.Sorted(maps.Keys(under)) {
			rows[tree] = append(rows[tree], api.Change{Key: []byte(key), Val: []byte(under[key])})
		}
	}
	return rows
}

// offsOf are places of n events: they neither rise nor fall.
func offsOf(n int) []int64 {
	var offs []int64
	for i := range n {
		offs = append(offs, int64(256+1000*((i*7)%20)+i))
	}
	return offs
}

// lays: what Events told of c, laid at offs, is put as the document says.
func lays(t *testing.T, c api.Commit, s state, offs []int64) {
	t.Helper()
	l, _, e := s.events(c)
	if e != api.OK {
		t.Fatalf("%v, %v: %d", c, s, e)
	}
	want := rowsOf(plainPuts(c, s, l, offs))
	if got := plan.Puts(c, s.heads, l, offs); toldTrees(got) != toldTrees(want) {
		t.Fatalf("%v, %v: %s, not %s", c, s, toldTrees(got), toldTrees(want))
	}
}

// edges are numbers at which something turns.
func edges() []int64 {
	return []int64{math.MinInt64, math.MinInt64 + 1, -4, -3, -2, -1, 0, 1, 2, 3, 255, 256, 1<<32 - 1, 1 << 32, math.MaxInt64 - 1, math.MaxInt64}
}
