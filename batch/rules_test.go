package batch_test

import (
	"math"
	"slices"
	"strings"
	"testing"

	"pandect/api"
	"pandect/batch"
	"pandect/file"
	"pandect/leaf"
)

// odd are changes of all kinds, some beyond all limits.
func odd() [][]api.Change {
	return append(unlike(), nil, puts("a"), outs("a"), puts("\x00", "a", "b", "ba", "\xff"), outs("\x00", "a", "b", "ba", "\xff"),
		puts(numbered(300)...), outs(numbered(300)...), puts(strings.Repeat("\xff", 1<<16)), []api.Change{put("a", strings.Repeat("v", 1<<20))})
}

func TestR1NonePanics(t *testing.T) {
	_, f := fresh(t)
	r, _ := smallest(t, f, 3)
	for _, f := range []*file.File{nil, {}, f} {
		for _, off := range []int64{math.MinInt64, -1, 0, 1, slots, r.Off, f.End(), 1 << 24, math.MaxInt64} {
			for _, count := range []uint64{0, 1, 4, r.Count, 1 << 40, math.MaxUint64} {
				for _, l := range odd() {
					batch.Update(f, api.Ref{Off: off, Count: count}, l)
				}
			}
		}
	}
}

// Nodes that say of themselves that they are their own kids, and such as say so of
// one another.
func TestR1NodesInACircle(t *testing.T) {
	for _, count := range []uint64{4, 8, 16, 20, 1 << 40} {
		for _, ahead := range []int64{0, 85} {
			_, f := fresh(t)
			var r api.Ref
			for range 2 {
				kid := api.Ref{Off: f.End() + ahead, Count: count}
				r = innerOf(t, f, letters("abcd"), kid, kid, kid, kid)
				ahead = -ahead
			}
			for _, r := range []api.Ref{r, {Off: slots, Count: r.Count}, {Off: slots, Count: count}} {
				for _, l := range odd() {
					if leaf.Rising(l) && len(l) > 0 {
						fails(t, f, r, l, api.ErrForm)
					}
				}
			}
		}
	}
}

// Nodes that lead down and down, as many as a file has.
func TestR1NodesWithoutAnEnd(t *testing.T) {
	t.Parallel()
	for at := range 4 {
		_, f := fresh(t)
		r, small := leafOf(t, f, letters("abcd")...), leafOf(t, f, letters("ijkl")...)
		for f.End() < 1<<24-200 {
			kids := []api.Ref{small, small, small, small}
			kids[at] = r
			r = innerOf(t, f, letters("aijk"), kids...)
		}
		for _, l := range odd() {
			if leaf.Rising(l) && len(l) > 0 {
				fails(t, f, r, l, api.ErrForm)
			}
		}
	}
}

// Few nodes, but so many ways through them that nobody goes over all of them.
func TestR1NodesByManyWays(t *testing.T) {
	for _, keys := range [][]string{letters("abcd"), letters("abcdefgh")} {
		_, f := fresh(t)
		r := leafOf(t, f, letters("abcd")...)
		for n := r.Count; n <= 1<<40; n = r.Count {
			r = innerOf(t, f, keys, slices.Repeat([]api.Ref{r}, len(keys))...)
		}
		for _, l := range odd() {
			if leaf.Rising(l) && len(l) > 0 {
				fails(t, f, r, l, api.ErrForm)
			}
		}
	}
}

// withRoom lays the texts of changes out of one memory, with spare room behind each.
func withRoom(l []api.Change) (changes []api.Change, room []byte) {
	room = make([]byte, 0, 1<<17)
	text := func(b []byte) []byte {
		from := len(room)
		room = append(append(room, b...), "spare room"...)
		return room[from : from+len(b)]
	}
	for _, c := range l {
		changes = append(changes, api.Change{Key: text(c.Key), Val: text(c.Val), Out: c.Out})
	}
	return changes, room
}

func TestR3WhatIsHandedInIsNeitherChangedNorKept(t *testing.T) {
	l := lot(20)
	for high := 1; high <= 3; high++ {
		for range 40 {
			d, f := fresh(t)
			r, keys := smallest(t, f, high)
			was := look(t, f, r).items
			want := drawnOf(l, keys)
			changes, room := withRoom(append(slices.Clone(want), put("zz", "spare"), out("zzz")))
			text, all := string(room), toldChanges(changes)
			changes = changes[:len(want)]
			got, e := batch.Update(f, r, changes)
			fine(t, e)
			if string(room) != text || toldChanges(changes[:len(want)+2]) != all {
				t.Fatalf("%s became %s", all, toldChanges(changes[:len(want)+2]))
			}
			for i := range room {
				room[i] = '#'
			}
			clear(changes[:cap(changes)])
			holds(t, f, got, plain(was, want))
			updates(t, d, f, got, drawnOf(l, keys))
		}
	}
}

// The same, done again, comes to the same bytes: on another disk, through another
// File, and whatever was asked in between.
func TestR4Same(t *testing.T) {
	d, f := fresh(t)
	c, g := fresh(t)
	l := lot(21)
	var r api.Ref
	for i := range 60 {
		changes := drawnChanges(l, drawnKeys(l, 80, 4), 35, string(rune('a'+i%26)))
		g, e := file.Open(c, g.Name())
		fine(t, e)
		for _, bad := range unlike() {
			fails(t, g, r, bad, api.ErrArg)
		}
		fails(t, g, api.Ref{Off: 5, Count: 1}, puts("a"), api.ErrForm)
		a, _ := updates(t, d, f, r, changes)
		b, e := batch.Update(g, r, changes)
		fine(t, e)
		if a != b || f.End() != g.End() || string(bytesOf(t, d, f.End())) != string(bytesOf(t, c, g.End())) {
			t.Fatalf("%d: %v, %v", i, a, b)
		}
		r = a
	}
}
