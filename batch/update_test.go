package batch_test

import (
	"slices"
	"strings"
	"testing"

	"pandect/api"
	"pandect/batch"
	"pandect/file"
	"pandect/leaf"
	"pandect/tree"
)

func TestP131Example(t *testing.T) {
	if api.Fan != fan || api.Least != least || api.MaxKey != mostKey || api.MaxVal != mostVal || 2*api.Sector != slots {
		t.Fatal("nodes are others than these tests'")
	}
	d, f := fresh(t)
	r, n := updates(t, d, f, api.Ref{}, []api.Change{put("k", "v")})
	kind, body, e := f.Read(slots)
	if r != (api.Ref{Off: slots, Count: 1}) || n != 1 || kind != nodeKind || string(body) != "L\x01\x01k\x01v" || e != api.OK {
		t.Errorf("%v: %d nodes, kind %d, %q, %d", r, n, kind, body, e)
	}
}

// Without changes it is r that is told, whatever that is, and of whatever file.
func TestP131NoChanges(t *testing.T) {
	d, f := fresh(t)
	high, _ := smallest(t, f, 3)
	end := f.End()
	d.Fail(1) // nothing has to be asked of the disk
	for _, r := range []api.Ref{{}, leafOf(t, roomOf(t), "a"), high, {Off: 5, Count: 1}, {Off: -1}, {Count: 1 << 63}} {
		for _, f := range []*file.File{nil, {}, f} {
			for _, l := range [][]api.Change{nil, {}, make([]api.Change, 0, 5)} {
				if got, e := batch.Update(f, r, l); got != r || e != api.OK {
					t.Errorf("%v: %v, %d", r, got, e)
				}
			}
		}
	}
	if f.End() != end {
		t.Error("something is appended")
	}
}

func roomOf(t *testing.T) *file.File {
	_, f := fresh(t)
	return f
}

func TestP131AnEmptyTreeThatStaysSo(t *testing.T) {
	d, f := fresh(t)
	d.Fail(1) // nothing has to be asked of the disk
	for _, f := range []*file.File{nil, {}, f} {
		for _, l := range [][]api.Change{outs("a"), outs("\x00", "a", "aa", strings.Repeat("\xff", mostKey)), outs(numbered(1000)...)} {
			if got, e := batch.Update(f, api.Ref{}, l); got != (api.Ref{}) || e != api.OK {
				t.Errorf("%v, %d", got, e)
			}
		}
	}
	if f.End() != slots {
		t.Error("something is appended")
	}
}

// A tree from whose items nothing is left is an empty one.
func TestP131AllOut(t *testing.T) {
	for high := 1; high <= 4; high++ {
		d, f := fresh(t)
		r, keys := smallest(t, f, high)
		got, n := updates(t, d, f, r, outs(keys...))
		if got != (api.Ref{}) || n != 0 {
			t.Errorf("%v, %d", got, n)
		}
		more := slices.Sorted(slices.Values(append(letters("abc"), keys...)))
		updates(t, d, f, r, outs(more...))
		updates(t, d, f, r, append(outs(keys...), put("z", "alone")))
		updates(t, d, f, r, slices.Concat([]api.Change{put("\x00", "alone")}, outs(keys...)))
	}
}

// Each number of items at once.
func TestP131OfNothing(t *testing.T) {
	t.Parallel()
	d, f := fresh(t)
	for n := range 600 {
		r, _ := updates(t, d, f, api.Ref{}, puts(numbered(n)...))
		if high := look(t, f, r).high; high > 0 && n < fewest(high) || n > power(fan, high) {
			t.Errorf("%d items lie %d deep", n, high)
		}
	}
}

// What is put lies there in the place of what was, and what is out is there no more,
// whether it was or not: each few of five keys under each change of them.
func TestP131EachFew(t *testing.T) {
	keys := []string{"\x00", "a", "a\x00", "b", "\xff"}
	for which := range 1 << len(keys) {
		var there []string
		for i, key := range keys {
			if which>>i&1 == 1 {
				there = append(there, key)
			}
		}
		d, f := fresh(t)
		var r api.Ref
		if len(there) > 0 {
			r = leafOf(t, f, there...)
		}
		for how := range 243 {
			var l []api.Change
			for i, rest := 0, how; i < len(keys); i, rest = i+1, rest/3 {
				switch rest % 3 {
				case 1:
					l = append(l, put(keys[i], "is"))
				case 2:
					l = append(l, out(keys[i]))
				}
			}
			updates(t, d, f, r, l)
		}
	}
}

// Keys of each length at each edge of what may be, with vals of each.
func TestP131Edges(t *testing.T) {
	long := strings.Repeat("m", mostKey-1)
	edges := []string{
		"\x00", "\x00\x00", "\x00\xff", "\x01", "a", "a\x00", "aa", "b", long, long + "\x00", long + "m", long + "\xff", "n",
		"\x7f", "\x80", "\xff", "\xff\x00", "\xff\xff", strings.Repeat("\xff", mostKey), strings.Repeat("\x00", mostKey),
	}
	slices.Sort(edges)
	most := strings.Repeat("w", mostVal)
	for i := range edges {
		for j := i + 1; j <= len(edges); j++ {
			d, f := fresh(t)
			var l []api.Change
			for at, key := range edges[i:j] {
				l = append(l, put(key, most[:mostVal*(at%3)/2]))
			}
			r, _ := updates(t, d, f, api.Ref{}, l)
			updates(t, d, f, r, outs(edges[:j]...))
			updates(t, d, f, r, puts(edges...))
			updates(t, d, f, r, outs(edges[i:]...))
		}
	}
}

// An item that is put ahead of all others changes the least keys up to the root; one
// that is put behind them lies in the last leaf.
func TestP131AtBothEnds(t *testing.T) {
	for high := 1; high <= 4; high++ {
		d, f := fresh(t)
		r, keys := smallest(t, f, high)
		for _, l := range [][]api.Change{puts("\x00"), puts("\xff"), puts("\x00", "\xff"), outs(keys[0]), outs(keys[len(keys)-1]), outs(slices.Compact([]string{keys[0], keys[len(keys)-1]})...)} {
			got, _ := updates(t, d, f, r, l)
			updates(t, d, f, got, puts("\x00\x00", "\xff\xff"))
			updates(t, d, f, got, outs("\x00", keys[0], "\xff"))
		}
	}
}

// One change makes few new nodes, wherever it is: all others serve both trees.
func TestP131NewNodes(t *testing.T) {
	t.Parallel()
	for high := 1; high <= 4; high++ {
		lo, hi := fewest(high), power(fan, high)
		for n := range 6 {
			d, f := fresh(t)
			keys := numbered(lo + n*(hi-lo)/5)
			r := grown(t, f, lot(n), keys, high, 2)
			for i := 0; i < len(keys); i += 1 + len(keys)/12 {
				for _, c := range []api.Change{put(keys[i], "other"), out(keys[i]), put(keys[i]+"\x00", "new"), put(keys[i][:2], "new")} {
					if _, n := updates(t, d, f, r, []api.Change{c}); n > 2*high+1 {
						t.Fatalf("%d items %d high: %s: %d new nodes", len(keys), high, toldChanges([]api.Change{c}), n)
					}
				}
			}
		}
	}
}

// What is changed to what it was needs no new node: it is r that is told.
func TestP131SameItems(t *testing.T) {
	for high := 1; high <= 4; high++ {
		d, f := fresh(t)
		r, keys := smallest(t, f, high)
		for i := 0; i < len(keys); i += 1 + len(keys)/30 {
			for _, l := range [][]api.Change{{put(keys[i], val(keys[i]))}, outs(keys[i] + "\x00"), outs("\x00", keys[i]+"a", "\xff")} {
				if got, n := updates(t, d, f, r, l); got != r || n != 0 {
					t.Errorf("%s: %v, %d new", toldChanges(l), got, n)
				}
			}
		}
		// all leaves but one are as they were
		last := keys[len(keys)-1]
		if _, n := updates(t, d, f, r, append(outs("\x00"), put(last, "other"), out(last+"a"))); n != high {
			t.Errorf("%d new of %d", n, high)
		}
	}
}

// Old trees are seen as they were, however many are made of them.
func TestP131OldTrees(t *testing.T) {
	d, f := fresh(t)
	l := lot(1)
	refs, wants := []api.Ref{{}}, [][]api.Item{nil}
	for i := range 120 {
		from := l.IntN(len(refs)) // of an old one, too
		c := drawnChanges(l, drawnKeys(l, 60, 4), 40, string(rune('A'+i)))
		r, _ := updates(t, d, f, refs[from], c)
		refs, wants = append(refs, r), append(wants, plain(wants[from], c))
	}
	for i, r := range refs {
		holds(t, f, r, wants[i])
	}
	g, e := file.Open(d, "f")
	fine(t, e)
	for i, r := range refs {
		holds(t, g, r, wants[i])
	}
}

// More items than leaf.Groups parts go into one leaf at once.
func TestP131MoreThanGroupsParts(t *testing.T) {
	t.Parallel()
	if len(leaf.Groups(mostParted)) != mostParted/fan {
		t.Fatal("it parts others than these tests say")
	}
	for _, n := range []int{mostParted - 2, mostParted - 1, mostParted + fan} {
		_, f := fresh(t)
		r, keys := leafOf(t, f, "\x10", "\x20"), numbered(n)
		l := make([]api.Change, 0, n)
		for i, key := range keys {
			l = append(l, put(key, string(rune(i&127))))
		}
		got, e := batch.Update(f, r, l)
		fine(t, e)
		items := look(t, f, got).items
		if got.Count != uint64(n+2) || len(items) != n+2 {
			t.Fatalf("%d: %v, %d", n, got, len(items))
		}
		holdsMany(t, f, got, slices.DeleteFunc(items, func(i api.Item) bool { return len(i.Key) == 1 }), l)
	}
}

// holdsMany: r is a right tree, and the items are what is put.
func holdsMany(t *testing.T, f *file.File, r api.Ref, items []api.Item, l []api.Change) {
	t.Helper()
	_, e := tree.Check(f, r)
	fine(t, e)
	for i, c := range l {
		if string(items[i].Key) != string(c.Key) || string(items[i].Val) != string(c.Val) {
			t.Fatalf("%d: %s", i, told(items[i:i+1]))
		}
	}
}
