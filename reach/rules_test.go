package reach_test

import (
	"bytes"
	"math"
	"math/rand/v2"
	"slices"
	"strings"
	"testing"

	"pandect/api"
	"pandect/file"
	"pandect/node"
	"pandect/reach"
)

// odd are asks of all kinds, some beyond all limits.
func odd() []ask {
	return asks([]string{"", "\x00", "a", "b", "i", "z", strings.Repeat("\xff", 1<<16)}, math.MinInt, -1, 0, 1, 5, math.MaxInt)
}

func TestR1NonePanics(t *testing.T) {
	_, f := fresh(t)
	r := lay(t, f, deep())
	for _, f := range []*file.File{nil, {}, f} {
		for _, off := range []int64{math.MinInt64, -1, 0, 1, slots, r.Off, f.End(), 1 << 24, math.MaxInt64} {
			for _, count := range []uint64{0, 1, 4, r.Count, 1 << 40, math.MaxUint64} {
				for _, a := range odd() {
					a.of(f, api.Ref{Off: off, Count: count})
				}
			}
		}
	}
}

// written lays a node of just these kids under these letters.
func written(t *testing.T, f *file.File, keys string, kids ...api.Ref) api.Ref {
	t.Helper()
	n := api.Node{Kids: kids}
	for _, c := range keys {
		n.Keys = append(n.Keys, []byte(string(c)))
	}
	at, e := f.Append(nodeKind, node.Put(n))
	fine(t, e)
	return api.Ref{Off: at, Count: node.Count(n)}
}

// ends: of a tree that is no right one no list of all is told, and each other ask
// ends, too.
func ends(t *testing.T, f *file.File, r api.Ref) {
	t.Helper()
	for _, a := range odd() {
		a.of(f, r)
	}
	unlisted(t, f, r, whole(), api.ErrForm)
	unlisted(t, f, r, ask{limit: all, back: true}, api.ErrForm)
}

// A node that says of itself that it is its own kid, and two that say so of one another.
func TestR1NodesInACircle(t *testing.T) {
	for _, count := range []uint64{4, 5, 8, 9, 1 << 40} {
		for _, ahead := range []int64{0, 85} {
			_, f := fresh(t)
			var r api.Ref
			for range 2 {
				kid := api.Ref{Off: f.End() + ahead, Count: count}
				r = written(t, f, "abcd", kid, kid, kid, kid)
				ahead = -ahead
			}
			for _, r := range []api.Ref{r, {Off: slots, Count: r.Count}, {Off: slots, Count: count}} {
				ends(t, f, r)
			}
		}
	}
}

// Nodes that lead down and down, as many as a file has.
func TestR1NodesWithoutAnEnd(t *testing.T) {
	t.Parallel()
	for at := range 4 {
		_, f := fresh(t)
		r, small := lay(t, f, letters("abcd")), lay(t, f, letters("ijkl"))
		for f.End() < 1<<24-200 {
			kids := []api.Ref{small, small, small, small}
			kids[at] = r
			r = written(t, f, "aijk", kids...)
		}
		ends(t, f, r)
	}
}

// Few nodes, but so many ways through them that nobody goes over all of them.
func TestR1NodesByManyWays(t *testing.T) {
	for _, keys := range []string{"abcd", "ab", "abcdefgh"} {
		_, f := fresh(t)
		r := lay(t, f, letters("abcd"))
		for n := r.Count; n <= 1<<40; n = r.Count {
			r = written(t, f, keys, slices.Repeat([]api.Ref{r}, len(keys))...)
		}
		ends(t, f, r)
	}
}

// As deep as it may be in a file: 131072 items.
func TestR1DeepTrees(t *testing.T) {
	const high = 9
	_, f := fresh(t)
	var keys []string
	for i := range 2 * power(least, high-1) {
		keys = append(keys, string([]byte{byte(i >> 16), byte(i >> 8), byte(i)}))
	}
	l := lot(11)
	b := grown(l, keys, high, 2)
	r, items := lay(t, f, b), b.under()
	lists(t, f, r, items, whole())
	lists(t, f, r, items, ask{limit: all, back: true})
	for i := 0; i < len(keys); i += 7777 {
		lists(t, f, r, items, ask{keys[i], "", 20, false})
		lists(t, f, r, items, ask{"", keys[i], 20, true})
	}
}

// turnedBy are what may become of a node, whether it stays one of a right tree or not.
func turnedBy() []func(l *rand.Rand, whole, b *branch) {
	return []func(l *rand.Rand, whole, b *branch){
		func(l *rand.Rand, whole, b *branch) { b.kind = byte(1 + l.IntN(2)) },
		func(l *rand.Rand, whole, b *branch) {
			if b.isLeaf() && len(b.items) > 0 {
				b.items[l.IntN(len(b.items))].Key = []byte(drawnKeys(l, 1)[0])
			}
		},
		func(l *rand.Rand, whole, b *branch) {
			if b.isLeaf() && len(b.items) > 0 {
				i := l.IntN(len(b.items))
				b.items = slices.Delete(b.items, i, i+1)
			}
		},
		func(l *rand.Rand, whole, b *branch) {
			if !b.isLeaf() {
				b.keys[l.IntN(len(b.keys))] = drawnKeys(l, 1)[0]
			}
		},
		// another node in its place, what is said of it as it should be or not
		func(l *rand.Rand, whole, b *branch) {
			all := whole.all()
			if other := all[l.IntN(len(all))]; !b.isLeaf() && !slices.Contains(other.all(), b) {
				i := l.IntN(len(b.kids))
				b.kids[i] = other
				if l.IntN(2) == 0 && len(other.under()) > 0 {
					b.keys[i] = string(other.under()[0].Key)
				}
			}
		},
	}
}

// rises: what is told lies where it is asked for, in order, and is not too much.
func rises(a ask, got []api.Item) bool {
	inOrder := slices.IsSortedFunc(got, func(x, y api.Item) int {
		if n := bytes.Compare(x.Key, y.Key); n != 0 && (n > 0) == a.back {
			return -1
		}
		return 1
	})
	return inOrder && len(got) <= max(a.limit, 0) && len(a.within(got)) == len(got)
}

// Whatever the tree, what is told of it rises, or nothing is but why.
func TestR1WhateverTheTree(t *testing.T) {
	l := lot(12)
	seen := map[api.Errno]int{}
	for i := range 1500 {
		_, f := fresh(t)
		b := drawn(l, 2+i%2, 60)
		items := b.under()
		for range 1 + l.IntN(2) {
			all := b.all()
			turnedBy()[l.IntN(len(turnedBy()))](l, b, all[l.IntN(len(all))])
		}
		r := lay(t, f, b)
		for range 12 {
			a := drawnAsk(l, items)
			got, e := a.of(f, r)
			seen[e]++
			if e != api.OK && len(got) > 0 || !rises(a, got) || e == api.OK && r.Count < uint64(len(got)) {
				t.Fatalf("%d: %v: %s, %d", i, a, told(got), e)
			}
		}
	}
	if len(seen) != 2 || seen[api.OK] < 1000 || seen[api.ErrForm] < 1000 {
		t.Errorf("%v", seen)
	}
}

func TestR3WhatIsHandedInStays(t *testing.T) {
	l := lot(13)
	d, f := fresh(t)
	b := deep()
	r, items := lay(t, f, b), b.under()
	was := text(d)
	for range 200 {
		a := drawnAsk(l, items)
		room := []byte(a.from + "spare" + a.to + "room")
		from, to := room[:len(a.from)], room[len(a.from)+5:len(a.from)+5+len(a.to)]
		got, e := reach.List(f, r, from, to, a.limit, a.back)
		fine(t, e)
		if string(room) != a.from+"spare"+a.to+"room" {
			t.Fatalf("%v became %q", a, room)
		}
		for i := range room {
			room[i] = '#'
		}
		if !same(got, a.plain(items)) {
			t.Fatalf("%v: what was handed in is kept: %s", a, told(got))
		}
	}
	if text(d) != was || f.End() != int64(len(was)) || f.Name() != "f" || len(d.List()) != 1 {
		t.Error("the file is another one")
	}
}

// What is told is new: of two lists none shares with the other, no item of a list with
// another one, and none with the file.
func TestR3WhatIsToldIsNew(t *testing.T) {
	l := lot(14)
	d, f := fresh(t)
	b := deep()
	r, items := lay(t, f, b), b.under()
	was := text(d)
	for range 100 {
		a := drawnAsk(l, items)
		got, _ := a.of(f, r)
		other, _ := a.of(f, r)
		for i := range got {
			for _, b := range [][]byte{got[i].Key, got[i].Val} {
				for j := range b[:cap(b)] {
					b[:cap(b)][j] = '#'
				}
			}
			if !same(got[i+1:], a.plain(items)[i+1:]) {
				t.Fatalf("%v: the %d-th shares with others: %s", a, i, told(got))
			}
		}
		clear(got[:cap(got)])
		if !same(other, a.plain(items)) {
			t.Fatalf("%v: two lists share: %s", a, told(other))
		}
		lists(t, f, r, items, a)
	}
	if text(d) != was {
		t.Error("the file is another one")
	}
}

// What is told goes by what is in the file: not by what was asked ahead of it, nor by
// which File of it is asked, nor by what comes behind it in the file.
func TestR4Same(t *testing.T) {
	l := lot(15)
	d, f := fresh(t)
	b := deep()
	r, items := lay(t, f, b), b.under()
	none := lay(t, f, over(letters("abcd"), letters("efg")))
	g, e := file.Open(d, "f")
	fine(t, e)
	for range 50 {
		a := drawnAsk(l, items)
		for _, f := range []*file.File{f, g, f} {
			lists(t, f, r, items, a)
			unlisted(t, f, none, whole(), api.ErrForm)
			unlisted(t, f, api.Ref{Off: r.Off + 1, Count: r.Count}, whole(), api.ErrForm)
		}
		b.kids[1].kids[1].items[1].Val = []byte(a.from)[:min(len(a.from), 1)]
		newer := lay(t, f, b)
		lists(t, g, newer, b.under(), a)
	}
}
