package rank_test

import (
	"math/rand/v2"
	"slices"
	"strings"
	"testing"

	"pandect/api"
	"pandect/batch"
	"pandect/node"
	"pandect/rank"
	"pandect/reach"
)

// Below of an empty tree: 0. It lies nowhere, so that nothing is asked of the disk.
func TestP151Example(t *testing.T) {
	if api.Fan != fan || api.Least != least || api.MaxKey != mostKey || api.MaxVal != mostVal || 2*api.Sector != slots {
		t.Fatal("nodes are others than these tests'")
	}
	d, f := fresh(t)
	if n, e := rank.Below(f, api.Ref{}, []byte("a")); n != 0 || e != api.OK {
		t.Errorf("%d, %d", n, e)
	}
	ops := d.Ops()
	d.Fail(1)
	for _, a := range slices.Concat(pairs([]string{"", "\x00", "a", "b", "\xff"}), places(9)) {
		for _, f := range files(f) {
			tells(t, f, api.Ref{}, nil, a)
		}
	}
	if d.Ops() != ops {
		t.Errorf("%d operations", d.Ops()-ops)
	}
}

// Of each leaf all that can be asked for, by bounds that are keys and such as are not.
func TestP151OfALeaf(t *testing.T) {
	_, f := fresh(t)
	for n := 1; n <= fan; n++ {
		b := leafOf(spaced('b', n)...)
		r := lay(t, f, b)
		bounds := append(strings.Split("abcdefghijklmnopqr", ""), "", "b\x00", "bb", "p\x00", "\x00", "\xff")
		for _, a := range slices.Concat(pairs(bounds), places(n+3)) {
			tells(t, f, r, b.under(), a)
		}
	}
}

// A span may begin and end anywhere: in one leaf, where two meet, many leaves apart.
func TestP151OfKids(t *testing.T) {
	for _, n := range []int{2, 3, 5, fan} {
		for size := least; size <= fan; size++ {
			_, f := fresh(t)
			var kids []*branch
			for i := range n {
				kids = append(kids, leafOf(spaced(byte(2*i*size)+1, size)...))
			}
			b := over(kids...)
			r := lay(t, f, b)
			bounds := []string{""}
			for i := range 2*r.Count + 3 {
				bounds = append(bounds, string([]byte{byte(i)}))
			}
			for _, a := range slices.Concat(pairs(bounds), places(int(r.Count)+3)) {
				tells(t, f, r, b.under(), a)
			}
		}
	}
}

// Each two bounds of a tree of three levels, wherever in its nodes they lie.
func TestP151OfThreeLevels(t *testing.T) {
	_, f := fresh(t)
	b := drawn(lot(1), 3, 90)
	r, items := lay(t, f, b), b.under()
	bounds := []string{"", "\x00", "\xff"}
	for _, i := range items {
		bounds = append(bounds, string(i.Key), string(i.Key)+"\x00")
	}
	for _, a := range slices.Concat(pairs(bounds), places(len(items)+9)) {
		tells(t, f, r, items, a)
	}
}

// drawnBound is one that lies by a key of the tree, or by none.
func drawnBound(l *rand.Rand, items []api.Item) string {
	if l.IntN(9) == 0 {
		return []string{"", "\x00", "\xff", strings.Repeat("\xff", 300)}[l.IntN(4)]
	}
	by := around(string(items[l.IntN(len(items))].Key))
	return by[l.IntN(len(by))]
}

func drawnAsk(l *rand.Rand, items []api.Item) ask {
	switch l.IntN(4) {
	case 0:
		return below(drawnBound(l, items))
	case 1:
		return at(uint64(l.IntN(len(items) + 2)))
	}
	from, to := drawnBound(l, items), drawnBound(l, items)
	if from > to && l.IntN(8) > 0 {
		from, to = to, from
	}
	return between(from, to)
}

func TestP151OfDrawnTrees(t *testing.T) {
	l := lot(2)
	for i := range 60 {
		_, f := fresh(t)
		b := drawn(l, 1+i%5, 700)
		r, items := lay(t, f, b), b.under()
		for range 100 {
			tells(t, f, r, items, drawnAsk(l, items))
		}
		tells(t, f, r, items, between("", ""))
		tells(t, f, r, items, below(""))
	}
}

// What is counted hangs on all of a key's bytes, how many they are too.
func TestP151OfTheGreatest(t *testing.T) {
	long := strings.Repeat("k", mostKey-1)
	first := &branch{kind: nodeKind, items: []api.Item{item("k", "1"), item("kk", ""), item(long, strings.Repeat("v", mostVal)), item(long+"\x00", "2")}}
	last := &branch{kind: nodeKind, items: []api.Item{item(long+"k", "3"), item(long+"l", "4"), item(long+"\xff", strings.Repeat("w", mostVal)), item(strings.Repeat("\xff", mostKey), "5")}}
	_, f := fresh(t)
	b := over(first, last)
	r := lay(t, f, b)
	bounds := []string{"", "k", "k\x00", "kk", long[1:], long, long + "\x00", long + "\x00\x00", long + "j", long + "k", long + "ka", long + "\xff", strings.Repeat("\xff", mostKey)}
	// bounds that are no keys, and longer than any
	bounds = append(bounds, long+"kk", long+long, strings.Repeat("\x00", 255), strings.Repeat("\xff", mostKey+1), strings.Repeat("\xff", 1<<16), strings.Repeat("k", 1<<16))
	for _, a := range slices.Concat(pairs(bounds), places(11)) {
		tells(t, f, r, b.under(), a)
	}
}

// nil is nothing, as an empty text is: below it there are no keys, as to it is no bound.
func TestP151OfNoBounds(t *testing.T) {
	_, f := fresh(t)
	b := drawn(lot(3), 2, 30)
	r := lay(t, f, b)
	for _, none := range [][]byte{nil, {}} {
		if n, e := rank.Below(f, r, none); n != 0 || e != api.OK {
			t.Errorf("%d, %d", n, e)
		}
		for _, from := range [][]byte{nil, {}, {0}} {
			want := between(string(from), "").plain(b.under()).n
			if n, e := rank.Between(f, r, from, none); n != want || e != api.OK || from == nil && n != r.Count {
				t.Errorf("from %q: %d, %d", from, n, e)
			}
		}
	}
}

// Where to is not above from, there is nothing between.
func TestP151OfBoundsThatFall(t *testing.T) {
	_, f := fresh(t)
	b := drawn(lot(4), 3, 60)
	r, items := lay(t, f, b), b.under()
	for i := range items {
		for j := range i + 1 {
			if got := between(string(items[i].Key), string(items[j].Key)).of(f, r); got != (answer{}) {
				t.Fatalf("%q to %q: %v", items[i].Key, items[j].Key, got)
			}
		}
	}
}

// One file has many trees, which have nodes in common: each is answered as it was.
func TestP151OfOlderTrees(t *testing.T) {
	l := lot(5)
	_, f := fresh(t)
	var trees []api.Ref
	var rows [][]api.Item
	var r api.Ref
	under := map[string]string{}
	for range 25 {
		var changes []api.Change
		for _, key := range drawnKeys(l, 1+l.IntN(40)) {
			c := api.Change{Key: []byte(key), Out: l.IntN(3) == 0}
			if delete(under, key); !c.Out {
				c.Val = []byte(val(key))
				under[key] = val(key)
			}
			changes = append(changes, c)
		}
		is, e := batch.Update(f, r, changes)
		fine(t, e)
		var now []api.Item
		for key, val := range under {
			now = append(now, item(key, val))
		}
		slices.SortFunc(now, func(a, b api.Item) int { return strings.Compare(string(a.Key), string(b.Key)) })
		r, trees, rows = is, append(trees, is), append(rows, now)
	}
	for i, r := range trees {
		for _, a := range places(len(rows[i]) + 1) {
			tells(t, f, r, rows[i], a)
		}
		for range 30 {
			if len(rows[i]) > 0 {
				tells(t, f, r, rows[i], drawnAsk(l, rows[i]))
			}
		}
	}
}

// deepest tells how many nodes lie on one way down.
func (b *branch) deepest() int {
	if b.isLeaf() {
		return 1
	}
	return 1 + b.kids[0].deepest()
}

// By Counts: no more is read than lies on one way, or on two, which begin at one root.
func TestP151ByCounts(t *testing.T) {
	l := lot(6)
	for i := range 40 {
		d, f := fresh(t)
		b := drawn(l, 1+i%5, 700)
		r, items := lay(t, f, b), b.under()
		for range 100 {
			a := drawnAsk(l, items)
			most := b.deepest()
			if a.call == "between" {
				most = 2*most - 1
			}
			ops := d.Ops()
			tells(t, f, r, items, a)
			if ops = d.Ops() - ops; ops > most {
				t.Fatalf("%v of %s: %d are read, of %d levels", a, told(items), ops, b.deepest())
			}
		}
	}
}

// Of as many as a tree may have, too many for a file: what does not lie on the way
// need not be there.
func TestP151OfTheGreatestCounts(t *testing.T) {
	_, f := fresh(t)
	small := letters("efgh")
	var n api.Node
	for i := range byte(fan) {
		kid := api.Ref{Off: 1, Count: 1<<40 - uint64(i)}
		if i == 4 {
			kid = lay(t, f, small)
		}
		n.Keys, n.Kids = append(n.Keys, []byte{'a' + i}), append(n.Kids, kid)
	}
	n.Keys[5], n.Keys[6], n.Keys[7] = []byte("i"), []byte("j"), []byte("k")
	off, e := f.Append(nodeKind, node.Put(n))
	fine(t, e)
	r := api.Ref{Off: off, Count: node.Count(n)}
	ahead := uint64(4<<40 - 0 - 1 - 2 - 3)
	for key, want := range map[string]uint64{"a": 0, "b": 1 << 40, "c": 2<<40 - 1, "e": ahead, "f": ahead + 1, "h\x00": ahead + 4, "i": ahead + 4, "k": r.Count - 1<<40 + 7} {
		if got := below(key).of(f, r); got != (answer{n: want}) {
			t.Errorf("below %q: %v, not %d", key, got, want)
		}
		if got := between(key, "").of(f, r); got != (answer{n: r.Count - want}) {
			t.Errorf("from %q on: %v, not %d", key, got, r.Count-want)
		}
	}
	for i, key := range strings.Split("efgh", "") {
		if got := at(ahead+uint64(i)).of(f, r); got != (answer{key: key, val: val(key), ok: true}) {
			t.Errorf("%d: %v", i, got)
		}
	}
	for _, i := range []uint64{r.Count, r.Count + 1, 8 << 40, 1<<64 - 1} {
		if got := at(i).of(f, r); got != (answer{}) {
			t.Errorf("%d: %v", i, got)
		}
	}
}

// At of Below is the item, and the other way round.
func TestP15AtOfBelowIsTheItem(t *testing.T) {
	l := lot(7)
	for i := range 20 {
		_, f := fresh(t)
		b := drawn(l, 1+i%5, 600)
		r := lay(t, f, b)
		for i, item := range b.under() {
			n, e := rank.Below(f, r, item.Key)
			fine(t, e)
			if got := at(n).of(f, r); n != uint64(i) || got != (answer{key: string(item.Key), val: string(item.Val), ok: true}) {
				t.Fatalf("%d: %d, %v", i, n, got)
			}
		}
		if got := at(r.Count).of(f, r); got != (answer{}) {
			t.Fatalf("behind the last: %v", got)
		}
	}
}

// Cut anywhere, the parts are as many as the whole; and as many as can be listed.
func TestP15CutsAreTheWhole(t *testing.T) {
	l := lot(8)
	for i := range 10 {
		_, f := fresh(t)
		b := drawn(l, 1+i%4, 150)
		r, items := lay(t, f, b), b.under()
		for range 60 {
			bounds := []string{drawnBound(l, items), drawnBound(l, items), drawnBound(l, items)}
			slices.Sort(bounds)
			from, cut, to := bounds[0], bounds[1], bounds[2]
			if cut == "" {
				continue
			}
			whole, low, high := between(from, to).of(f, r), between(from, cut).of(f, r), between(cut, to).of(f, r)
			if whole.e != api.OK || whole.n != low.n+high.n || whole.n != below(to).of(f, r).n-below(from).of(f, r).n {
				t.Fatalf("%q, %q, %q of %s: %v, %v, %v", from, cut, to, told(items), whole, low, high)
			}
			list, e := reach.List(f, r, []byte(from), []byte(to), len(items), false)
			if e != api.OK || uint64(len(list)) != whole.n {
				t.Fatalf("%q, %q of %s: %v, not %s", from, to, told(items), whole, told(list))
			}
		}
	}
}
