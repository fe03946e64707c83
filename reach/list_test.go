package reach_test

import (
	"math"
	"math/rand/v2"
	"slices"
	"strings"
	"testing"

	"pandect/api"
	"pandect/batch"
	"pandect/file"
	"pandect/reach"
)

// List of nothing: nothing. An empty tree lies nowhere, so that nothing is asked of
// the disk.
func TestP141Example(t *testing.T) {
	if api.Fan != fan || api.Least != least || api.MaxKey != mostKey || api.MaxVal != mostVal || 2*api.Sector != slots {
		t.Fatal("nodes are others than these tests'")
	}
	d, f := fresh(t)
	ops := d.Ops()
	d.Fail(1)
	for _, a := range asks([]string{"", "\x00", "a", "b", "\xff"}, -1, 0, 1, 5, all) {
		for _, f := range []*file.File{f, nil, {}} {
			lists(t, f, api.Ref{}, nil, a)
		}
	}
	if got, e := reach.List(f, api.Ref{}, nil, nil, 1, false); len(got) != 0 || e != api.OK {
		t.Errorf("%s, %d", told(got), e)
	}
	if d.Ops() != ops {
		t.Errorf("%d operations", d.Ops()-ops)
	}
}

// Of each leaf all that can be asked for, by bounds that are keys and such as are not.
func TestP141OfALeaf(t *testing.T) {
	_, f := fresh(t)
	for n := 1; n <= fan; n++ {
		b := leafOf(spaced('b', n)...)
		r := lay(t, f, b)
		for _, a := range asks(strings.Split("abcdefghijklmnopqr", ""), -2, -1, 0, 1, 2, n-1, n, n+1, all) {
			lists(t, f, r, b.under(), a)
		}
		for _, a := range asks([]string{"", "b", "b\x00", "c", "p"}, -1, 0, 1, n, all) {
			lists(t, f, r, b.under(), a)
		}
	}
}

// kidsOf is a node of n leaves, each of so many items.
func kidsOf(n, size int) *branch {
	var kids []*branch
	for i := range n {
		kids = append(kids, leafOf(spaced(byte(2*i*size)+1, size)...))
	}
	return over(kids...)
}

// bytesTo are the keys of one byte below n, and nothing.
func bytesTo(n int) []string {
	out := []string{""}
	for i := range n {
		out = append(out, string([]byte{byte(i)}))
	}
	return out
}

// A list may begin and end anywhere: in one leaf, where two meet, many leaves apart.
func TestP141OfKids(t *testing.T) {
	for _, n := range []int{2, 3, 5, fan} {
		_, f := fresh(t)
		b := kidsOf(n, least+n%3)
		r := lay(t, f, b)
		for _, a := range asks(bytesTo(2*int(r.Count)+3), 1, 9, all) {
			lists(t, f, r, b.under(), a)
		}
	}
}

// However many are asked for: limits end within a leaf, where two meet, behind all.
func TestP141OfLimits(t *testing.T) {
	l := lot(1)
	for high := 1; high <= 3; high++ {
		_, f := fresh(t)
		b := drawn(l, high, 40)
		r := lay(t, f, b)
		items := b.under()
		n := len(items)
		for _, bounds := range [][2]string{{"", ""}, {string(items[n/3].Key), ""}, {"", string(items[n-n/3-1].Key)}, {string(items[n/4].Key) + "\x00", string(items[n-1].Key)}} {
			for limit := -2; limit <= n+2; limit++ {
				lists(t, f, r, items, ask{bounds[0], bounds[1], limit, false})
				lists(t, f, r, items, ask{bounds[0], bounds[1], limit, true})
			}
			for _, limit := range []int{math.MinInt, math.MinInt32, -all, math.MaxInt32, math.MaxInt} {
				lists(t, f, r, items, ask{bounds[0], bounds[1], limit, false})
				lists(t, f, r, items, ask{bounds[0], bounds[1], limit, true})
			}
		}
	}
}

// drawnAsk is one whose bounds lie by keys of the tree.
func drawnAsk(l *rand.Rand, items []api.Item) ask {
	bound := func() string {
		by := around(string(items[l.IntN(len(items))].Key))
		return by[l.IntN(len(by))]
	}
	a := ask{bound(), bound(), l.IntN(len(items) + 2), l.IntN(2) == 0}
	if a.from > a.to && l.IntN(8) > 0 {
		a.from, a.to = a.to, a.from
	}
	if l.IntN(4) == 0 {
		a.limit = 1 + l.IntN(12)
	}
	return a
}

func TestP141OfDrawnTrees(t *testing.T) {
	l := lot(2)
	for i := range 60 {
		_, f := fresh(t)
		b := drawn(l, 1+i%5, 700)
		r, items := lay(t, f, b), b.under()
		for range 100 {
			lists(t, f, r, items, drawnAsk(l, items))
		}
		lists(t, f, r, items, whole())
		lists(t, f, r, items, ask{limit: all, back: true})
	}
}

// Each two bounds of a tree of three levels, wherever in its nodes they lie.
func TestP141OfThreeLevels(t *testing.T) {
	_, f := fresh(t)
	b := drawn(lot(3), 3, 0)
	r, items := lay(t, f, b), b.under()
	bounds := []string{""}
	for _, i := range items {
		bounds = append(bounds, string(i.Key), string(i.Key)+"\x00")
	}
	for _, a := range asks(bounds, 1, 6, all) {
		lists(t, f, r, items, a)
	}
}

// What belongs to the list hangs on all of a key's bytes, how many they are too.
func TestP141OfTheGreatest(t *testing.T) {
	long := strings.Repeat("k", mostKey-1)
	first := &branch{kind: nodeKind, items: []api.Item{item("k", "1"), item("kk", ""), item(long, strings.Repeat("v", mostVal)), item(long+"\x00", "2")}}
	last := &branch{kind: nodeKind, items: []api.Item{item(long+"k", "3"), item(long+"l", "4"), item(long+"\xff", strings.Repeat("w", mostVal)), item(strings.Repeat("\xff", mostKey), "5")}}
	_, f := fresh(t)
	b := over(first, last)
	r := lay(t, f, b)
	bounds := []string{"", "k", "k\x00", "kk", long[1:], long, long + "\x00", long + "\x00\x00", long + "j", long + "k", long + "ka", long + "\xff", strings.Repeat("\xff", mostKey)}
	// bounds that are no keys, and longer than any
	bounds = append(bounds, long+"kk", long+long, strings.Repeat("\x00", 255), strings.Repeat("\xff", mostKey+1), strings.Repeat("\xff", 1<<16), strings.Repeat("k", 1<<16))
	for _, a := range asks(bounds, 1, 3, all) {
		lists(t, f, r, b.under(), a)
	}
}

// nil is nothing, as an empty text is: as to there is no bound then.
func TestP141OfNoBounds(t *testing.T) {
	_, f := fresh(t)
	b := drawn(lot(4), 2, 30)
	r, items := lay(t, f, b), b.under()
	for _, from := range [][]byte{nil, {}, {0}} {
		for _, to := range [][]byte{nil, {}} {
			for _, back := range []bool{false, true} {
				want := ask{string(from), "", 9, back}.plain(items)
				if got, e := reach.List(f, r, from, to, 9, back); !same(got, want) || e != api.OK {
					t.Errorf("%q to %q, %v: %s, %d, not %s", from, to, back, told(got), e, told(want))
				}
			}
		}
	}
}

// Where to is not above from, there is nothing between.
func TestP141OfBoundsThatFall(t *testing.T) {
	_, f := fresh(t)
	b := drawn(lot(5), 3, 40)
	r, items := lay(t, f, b), b.under()
	for i := range items {
		for j := range i + 1 {
			for _, back := range []bool{false, true} {
				a := ask{string(items[i].Key), string(items[j].Key), all, back}
				if got, e := a.of(f, r); len(got) != 0 || e != api.OK {
					t.Fatalf("%v: %s, %d", a, told(got), e)
				}
			}
		}
	}
}

// One file has many trees, which have nodes in common: each is listed as it was.
func TestP141OfOlderTrees(t *testing.T) {
	l := lot(6)
	_, f := fresh(t)
	var trees []api.Ref
	var items [][]api.Item
	var r api.Ref
	under := map[string]string{}
	for range 25 {
		var changes []api.Change
		for _, key := range drawnKeys(l, 1+l.IntN(40)) {
			c := api.Change{Key: []byte(key), Out: l.IntN(3) == 0}
			if delete(under, key); !c.Out {
				c.Val = []byte(val(key))
				under[key] = val(key)
			}
			changes = append(changes, c)
		}
		is, e := batch.Update(f, r, changes)
		fine(t, e)
		var now []api.Item
		for key, val := range under {
			now = append(now, item(key, val))
		}
		slices.SortFunc(now, func(a, b api.Item) int { return strings.Compare(string(a.Key), string(b.Key)) })
		r, trees, items = is, append(trees, is), append(items, now)
	}
	for i, r := range trees {
		lists(t, f, r, items[i], whole())
		for range 20 {
			if len(items[i]) > 0 {
				lists(t, f, r, items[i], drawnAsk(l, items[i]))
			}
		}
	}
}

// byPieces lists all that lies where a asks for some, so many at once.
func byPieces(t *testing.T, f *file.File, r api.Ref, a ask) []api.Item {
	t.Helper()
	var out []api.Item
	for {
		piece, e := a.of(f, r)
		fine(t, e)
		if len(piece) == 0 {
			return out
		}
		out = append(out, piece...)
		last := string(piece[len(piece)-1].Key)
		if a.back {
			a.to = last
		} else {
			a.from = last + "\x00"
		}
	}
}

func TestP14PiecesAreTheWhole(t *testing.T) {
	l := lot(7)
	for i := range 20 {
		_, f := fresh(t)
		b := drawn(l, 1+i%4, 200)
		r, items := lay(t, f, b), b.under()
		for _, a := range []ask{{}, {back: true}, drawnAsk(l, items), drawnAsk(l, items)} {
			for _, a.limit = range []int{1, 2, 3, 4, 7, 8, 9, 31, len(items), all} {
				if got := byPieces(t, f, r, a); !same(got, a.within(items)) {
					t.Fatalf("%v of %s: %s", a, told(items), told(got))
				}
			}
		}
	}
}

// Cut anywhere, the two lists are the one.
func TestP14CutsAreTheWhole(t *testing.T) {
	l := lot(8)
	_, f := fresh(t)
	b := drawn(l, 3, 100)
	r, items := lay(t, f, b), b.under()
	for range 300 {
		a := drawnAsk(l, items)
		a.limit = all
		low, high := a, a
		cut := drawnAsk(l, items).from
		if cut < a.from || a.to != "" && cut > a.to || cut == "" {
			continue
		}
		low.to, high.from = cut, cut
		if a.back {
			low, high = high, low
		}
		first, e := low.of(f, r)
		fine(t, e)
		last, e := high.of(f, r)
		fine(t, e)
		if got := slices.Concat(first, last); !same(got, a.plain(items)) {
			t.Fatalf("%v and %v: %s", low, high, told(got))
		}
	}
}
