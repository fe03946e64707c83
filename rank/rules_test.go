package rank_test

import (
	"math"
	"math/rand/v2"
	"slices"
	"strings"
	"testing"

	"pandect/api"
	"pandect/file"
	"pandect/node"
	"pandect/rank"
)

// odd are asks of all kinds, some beyond all limits.
func odd() []ask {
	return slices.Concat(pairs([]string{"", "\x00", "a", "b", "i", "z", strings.Repeat("\xff", 1<<16)}), places(9))
}

func TestR1NonePanics(t *testing.T) {
	_, f := fresh(t)
	r := lay(t, f, deep())
	for _, f := range files(f) {
		for _, off := range []int64{math.MinInt64, -1, 0, 1, slots, r.Off, f.End(), 1 << 24, math.MaxInt64} {
			for _, count := range []uint64{0, 1, 4, r.Count, 1 << 40, math.MaxUint64} {
				for _, a := range odd() {
					a.of(f, api.Ref{Off: off, Count: count})
				}
			}
		}
	}
}

// written lays a node of just these kids under these letters.
func written(t *testing.T, f *file.File, keys string, kids ...api.Ref) api.Ref {
	t.Helper()
	n := api.Node{Kids: kids}
	for _, c := range keys {
		n.Keys = append(n.Keys, []byte(string(c)))
	}
	off, e := f.Append(nodeKind, node.Put(n))
	fine(t, e)
	return api.Ref{Off: off, Count: node.Count(n)}
}

// ends: whatever the nodes are, each ask ends; these come by what is wrong.
func ends(t *testing.T, f *file.File, r api.Ref, by ...ask) {
	t.Helper()
	for _, a := range odd() {
		a.of(f, r)
	}
	for _, a := range by {
		untold(t, f, r, a, api.ErrForm)
	}
}

// A node that says of itself that it is its own kid, and two that say so of one another.
func TestR1NodesInACircle(t *testing.T) {
	for _, count := range []uint64{4, 5, 8, 9, 1 << 40} {
		for _, ahead := range []int64{0, 85} {
			_, f := fresh(t)
			var r api.Ref
			for range 2 {
				kid := api.Ref{Off: f.End() + ahead, Count: count}
				r = written(t, f, "abcd", kid, kid, kid, kid)
				ahead = -ahead
			}
			for _, r := range []api.Ref{r, {Off: slots, Count: r.Count}, {Off: slots, Count: count}} {
				ends(t, f, r, at(0), at(1), below("aa"), below("z"), between("aa", ""), between("aa", "z"), between("z", ""))
			}
		}
	}
}

// Nodes that lead down and down, as many as a file has.
func TestR1NodesWithoutAnEnd(t *testing.T) {
	t.Parallel()
	for i, keys := range []string{"aijk", "aejk", "aefk", "aefg"} {
		_, f := fresh(t)
		r, small := lay(t, f, letters("abcd")), lay(t, f, letters("ijkl"))
		for f.End() < 1<<24-200 {
			kids := []api.Ref{small, small, small, small}
			kids[i] = r
			r = written(t, f, keys, kids...)
		}
		ends(t, f, r, at(4*uint64(i)), below(keys[i:i+1]+"\x00"), between(keys[i:i+1]+"\x00", ""))
	}
}

// Few nodes, but so many ways through them that nobody goes over all of them.
func TestR1NodesByManyWays(t *testing.T) {
	for _, keys := range []string{"abcd", "ab", "abcdefgh"} {
		_, f := fresh(t)
		r := lay(t, f, letters("abcd"))
		for n := r.Count; n <= 1<<40; n = r.Count {
			r = written(t, f, keys, slices.Repeat([]api.Ref{r}, len(keys))...)
		}
		ends(t, f, r, at(0), at(r.Count-1), below("bb"), between("aa", "bb"))
	}
}

// As deep as it may be in a file: 131072 items.
func TestR1DeepTrees(t *testing.T) {
	const high = 9
	_, f := fresh(t)
	var keys []string
	for i := range 2 * power(least, high-1) {
		keys = append(keys, string([]byte{byte(i >> 16), byte(i >> 8), byte(i)}))
	}
	b := grown(lot(11), keys, high, 2)
	r := lay(t, f, b)
	for i := 0; i < len(keys); i += 777 {
		if got := below(keys[i]).of(f, r); got != (answer{n: uint64(i)}) {
			t.Fatalf("below %q: %v", keys[i], got)
		}
		if got := at(uint64(i)).of(f, r); got != (answer{key: keys[i], val: val(keys[i]), ok: true}) {
			t.Fatalf("%d: %v", i, got)
		}
		for j := i; j < len(keys); j += 7777 {
			if got := between(keys[i], keys[j]+"\x00").of(f, r); got != (answer{n: uint64(j - i + 1)}) {
				t.Fatalf("%q to %q: %v", keys[i], keys[j], got)
			}
		}
	}
}

// turnedBy are what may become of a node, whether it stays one of a right tree or not.
func turnedBy() []func(l *rand.Rand, whole, b *branch) {
	return []func(l *rand.Rand, whole, b *branch){
		func(l *rand.Rand, whole, b *branch) { b.kind = byte(1 + l.IntN(2)) },
		func(l *rand.Rand, whole, b *branch) {
			if b.isLeaf() && len(b.items) > 0 {
				b.items[l.IntN(len(b.items))].Key = []byte(drawnKeys(l, 1)[0])
			}
		},
		func(l *rand.Rand, whole, b *branch) {
			if b.isLeaf() && len(b.items) > 0 {
				i := l.IntN(len(b.items))
				b.items = slices.Delete(b.items, i, i+1)
			}
		},
		func(l *rand.Rand, whole, b *branch) {
			if !b.isLeaf() {
				b.keys[l.IntN(len(b.keys))] = drawnKeys(l, 1)[0]
			}
		},
		// another node in its place, what is said of it as it should be or not
		func(l *rand.Rand, whole, b *branch) {
			all := whole.all()
			if other := all[l.IntN(len(all))]; !b.isLeaf() && !slices.Contains(other.all(), b) {
				i := l.IntN(len(b.kids))
				b.kids[i] = other
				if l.IntN(2) == 0 && len(other.under()) > 0 {
					b.keys[i] = string(other.under()[0].Key)
				}
			}
		},
	}
}

// Whatever the tree, what is told of it may be told of one, or nothing is but why.
func TestR1WhateverTheTree(t *testing.T) {
	l := lot(12)
	seen := map[api.Errno]int{}
	for i := range 1500 {
		_, f := fresh(t)
		b := drawn(l, 2+i%2, 60)
		items := b.under()
		for range 1 + l.IntN(2) {
			all := b.all()
			turnedBy()[l.IntN(len(turnedBy()))](l, b, all[l.IntN(len(all))])
		}
		r := lay(t, f, b)
		for range 12 {
			a := drawnAsk(l, items)
			got := a.of(f, r)
			seen[got.e]++
			if got.e != api.OK && got != (answer{e: got.e}) || got.n > r.Count || got.e == api.OK && a.call == "at" && got.ok != (a.i < r.Count) {
				t.Fatalf("%d: %v: %v", i, a, got)
			}
		}
	}
	if len(seen) != 2 || seen[api.OK] < 1000 || seen[api.ErrForm] < 1000 {
		t.Errorf("%v", seen)
	}
}

func TestR3WhatIsHandedInStays(t *testing.T) {
	l := lot(13)
	d, f := fresh(t)
	b := deep()
	r, items := lay(t, f, b), b.under()
	was := text(d)
	for range 200 {
		bounds := between(drawnBound(l, items), drawnBound(l, items))
		whole := bounds.from + "spare" + bounds.to + "room"
		room := []byte(whole)
		from, to := room[:len(bounds.from)], room[len(bounds.from)+5:len(bounds.from)+5+len(bounds.to)]
		n, e := rank.Between(f, r, from, to)
		low, no := rank.Below(f, r, from)
		if string(room) != whole || e != api.OK || no != api.OK {
			t.Fatalf("%v became %q", bounds, room)
		}
		if n != bounds.plain(items).n || low != below(bounds.from).plain(items).n {
			t.Fatalf("%v: %d, %d", bounds, n, low)
		}
		for i := range room {
			room[i] = '#'
		}
		tells(t, f, r, items, bounds)
	}
	if text(d) != was || f.End() != int64(len(was)) || f.Name() != "f" || len(d.List()) != 1 {
		t.Error("the file is another one")
	}
}

// What is told is new: it shares nothing with what is told another time, nor with the
// file, nor do an item's key and what lies under it.
func TestR3WhatIsToldIsNew(t *testing.T) {
	d, f := fresh(t)
	b := deep()
	r, items := lay(t, f, b), b.under()
	was := text(d)
	same := func(a, b api.Item) bool { return string(a.Key) == string(b.Key) && string(a.Val) == string(b.Val) }
	for i, want := range items {
		got, _, _ := rank.At(f, r, uint64(i))
		other, _, _ := rank.At(f, r, uint64(i))
		for j := range got.Key[:cap(got.Key)] {
			got.Key[:cap(got.Key)][j] = '#'
		}
		if string(got.Val) != string(want.Val) {
			t.Fatalf("%d: the key shares with what lies under it", i)
		}
		for j := range got.Val[:cap(got.Val)] {
			got.Val[:cap(got.Val)][j] = '#'
		}
		if !same(other, want) {
			t.Fatalf("%d: two share: %q, %q", i, other.Key, other.Val)
		}
		tells(t, f, r, items, at(uint64(i)))
	}
	if text(d) != was {
		t.Error("the file is another one")
	}
}

// What is told goes by what is in the file: not by what was asked ahead of it, nor by
// which File of it is asked, nor by what comes behind it in the file.
func TestR4Same(t *testing.T) {
	l := lot(14)
	d, f := fresh(t)
	b := deep()
	r, items := lay(t, f, b), b.under()
	none := lay(t, f, over(letters("abcd"), letters("efg")))
	g, e := file.Open(d, "f")
	fine(t, e)
	for range 50 {
		a := drawnAsk(l, items)
		for _, f := range []*file.File{f, g, f} {
			tells(t, f, r, items, a)
			untold(t, f, none, at(4), api.ErrForm)
			untold(t, f, api.Ref{Off: r.Off + 1, Count: r.Count}, below("e"), api.ErrForm)
		}
		b.kids[1].kids[1].items[1].Val = []byte(a.to)[:min(len(a.to), 1)]
		newer := lay(t, f, b)
		tells(t, g, newer, b.under(), a)
	}
}
