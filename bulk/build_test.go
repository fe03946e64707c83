package bulk_test

import (
	"strings"
	"testing"

	"pandect/api"
	"pandect/bulk"
	"pandect/file"
	"pandect/tree"
)

func TestP161Example(t *testing.T) {
	if api.Fan != fan || api.Least != least || api.MaxKey != mostKey || api.MaxVal != mostVal || 2*api.Sector != slots {
		t.Fatal("nodes are others than these tests'")
	}
	d, f := fresh(t)
	r := builds(t, d, f, nil)
	if r != (api.Ref{}) || f.End() != slots {
		t.Errorf("%v, the end is at %d", r, f.End())
	}
	if depth, e := tree.Check(f, r); depth != 0 || e != api.OK {
		t.Errorf("%d, %d", depth, e)
	}
}

func TestP161OneItem(t *testing.T) {
	d, f := fresh(t)
	r := builds(t, d, f, []api.Item{item("k", "v")})
	kind, body, e := f.Read(slots)
	if r != (api.Ref{Off: slots, Count: 1}) || kind != nodeKind || string(body) != "L\x01\x01k\x01v" || e != api.OK {
		t.Errorf("%v: kind %d, %q, %d", r, kind, body, e)
	}
}

// Each number of items: one behind the other in one file, where the older trees stay.
func TestP161EachNumber(t *testing.T) {
	t.Parallel()
	keys := numbered(700)
	d, f := fresh(t)
	var refs []api.Ref
	for n := range 160 {
		refs = append(refs, builds(t, d, f, itemsOf(keys[:n]...)))
	}
	for n, r := range refs {
		holds(t, f, r, itemsOf(keys[:n]...))
	}
	for n := 160; n < len(keys); n++ {
		d, f := fresh(t)
		builds(t, d, f, itemsOf(keys[:n]...))
	}
}

// About each number at which rows of whatever height grow too long.
func TestP161ManyItems(t *testing.T) {
	t.Parallel()
	all := itemsOf(numbered(40000)...)
	for _, about := range []int{8 * 8 * 8, 12 * 8 * 8, 8 * 8 * 8 * 8, 12 * 8 * 8 * 8} {
		for n := about - 14; n < about+14; n++ {
			d, f := fresh(t)
			builds(t, d, f, all[:n])
		}
	}
	for _, n := range []int{8 * 8 * 8 * 8 * 8, len(all)} {
		d, f := fresh(t)
		builds(t, d, f, all[:n])
	}
}

// Items as long as may be, and as short.
func TestP161LongItems(t *testing.T) {
	t.Parallel()
	for n := range 200 {
		d, f := fresh(t)
		builds(t, d, f, greatest(n))
		var items []api.Item
		for i := range n {
			items = append(items, item(string([]byte{byte(i)}), ""))
		}
		builds(t, d, f, items)
	}
}

// Each length of a key, with each length of what lies under one.
func TestP161EachLength(t *testing.T) {
	t.Parallel()
	for long := range mostVal + 1 {
		d, f := fresh(t)
		var items []api.Item
		for n := range mostKey {
			items = append(items, item(strings.Repeat("k", n+1), strings.Repeat("v", (long+n)%(mostVal+1))))
		}
		builds(t, d, f, items)
	}
}

func TestP161Edges(t *testing.T) {
	keys := edges()
	for i := range keys {
		for j := i; j <= len(keys); j++ {
			d, f := fresh(t)
			builds(t, d, f, itemsOf(keys[i:j]...))
		}
	}
}

func TestP161DrawnRows(t *testing.T) {
	t.Parallel()
	l := lot(1)
	for range 1500 {
		d, f := fresh(t)
		for range 1 + l.IntN(3) {
			builds(t, d, f, itemsOf(drawnKeys(l, 1+l.IntN(400), 1+l.IntN(9))...))
		}
	}
}

// A row as long as a test has time for.
func TestP161LongRow(t *testing.T) {
	t.Parallel()
	d, f := fresh(t)
	var items []api.Item
	for _, key := range numbered(300000) {
		items = append(items, item(key, ""))
	}
	builds(t, d, f, items)
}

// What else is laid into the file in between is none of the tree's, and another's
// nodes are not.
func TestP161InBetween(t *testing.T) {
	l := lot(2)
	for range 200 {
		d, f := fresh(t)
		g, e := file.Open(d, "f")
		fine(t, e)
		builders, rows := []*bulk.Builder{bulk.New(f), bulk.New(g), bulk.New(f)}, make([][]api.Item, 3)
		for _, key := range numbered(1 + l.IntN(300)) {
			which := l.IntN(5)
			if which < len(builders) {
				i := item(key, val(key))
				puts(t, builders[which], i)
				rows[which] = append(rows[which], i)
				continue
			}
			_, e := f.Append(byte(which), []byte(key))
			fine(t, e)
			fine(t, f.Hold(uint64(which), []byte(key)))
		}
		var refs []api.Ref
		for i, b := range builders {
			refs = append(refs, done(t, f, b, rows[i]))
		}
		for i, r := range refs {
			holds(t, f, r, rows[i])
		}
		ends(t, d, builders[l.IntN(3)], api.ErrArg)
	}
}
