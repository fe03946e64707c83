package bulk_test

import (
	"testing"

	"pandect/api"
	"pandect/batch"
	"pandect/file"
	"pandect/rank"
	"pandect/reach"
	"pandect/tree"
)

// changesOf put the items.
func changesOf(items []api.Item) []api.Change {
	var l []api.Change
	for _, i := range items {
		l = append(l, api.Change{Key: i.Key, Val: i.Val})
	}
	return l
}

// updated makes a tree of the items by so many Updates as there are items.
func updated(t *testing.T, f *file.File, items []api.Item) (r api.Ref) {
	t.Helper()
	var e api.Errno
	for _, c := range changesOf(items) {
		r, e = batch.Update(f, r, []api.Change{c})
		fine(t, e)
	}
	return r
}

// alike: a and b say the same of all that is asked of a tree.
func alike(t *testing.T, f *file.File, a, b api.Ref, keys []string) {
	t.Helper()
	for _, back := range []bool{false, true} {
		x, e := reach.List(f, a, nil, nil, 1<<20, back)
		fine(t, e)
		y, e := reach.List(f, b, nil, nil, 1<<20, back)
		fine(t, e)
		if !same(x, y) {
			t.Fatalf("%s, not %s", told(x), told(y))
		}
	}
	for i, key := range keys {
		x, is, e := tree.Get(f, a, []byte(key))
		fine(t, e)
		y, was, e := tree.Get(f, b, []byte(key))
		fine(t, e)
		m, e := rank.Below(f, a, []byte(key))
		fine(t, e)
		n, e := rank.Below(f, b, []byte(key))
		fine(t, e)
		if is != was || string(x) != string(y) || m != n {
			t.Fatalf("%q: %q %v %d, not %q %v %d", key, x, is, m, y, was, n)
		}
		p, is, e := rank.At(f, a, uint64(i))
		fine(t, e)
		q, was, e := rank.At(f, b, uint64(i))
		fine(t, e)
		if is != was || !same([]api.Item{p}, []api.Item{q}) {
			t.Fatalf("%d: %s, not %s", i, told([]api.Item{p}), told([]api.Item{q}))
		}
	}
}

func TestFollowsItSaysWhatSoManyUpdatesSay(t *testing.T) {
	t.Parallel()
	l := lot(3)
	for i := range 150 {
		d, f := fresh(t)
		keys := drawnKeys(l, 1+2*i, 6)
		items := itemsOf(keys...)
		a, b := builds(t, d, f, items), updated(t, f, items)
		alike(t, f, a, b, append(drawnKeys(l, 40, 6), keys...))
	}
}

// A tree that is made so is one that goes on: it is changed as any other.
func TestFollowsItIsChangedAsAnyOther(t *testing.T) {
	t.Parallel()
	l := lot(4)
	for i := range 100 {
		d, f := fresh(t)
		keys := drawnKeys(l, 1+3*i, 5)
		items := itemsOf(keys...)
		a, b := builds(t, d, f, items), updated(t, f, items)
		for range 4 {
			more := drawnKeys(l, 60, 5)
			changes := changesOf(itemsOf(more...))
			for at := range changes {
				if l.IntN(2) == 0 {
					changes[at].Val, changes[at].Out = nil, true
				}
			}
			var e api.Errno
			a, e = batch.Update(f, a, changes)
			fine(t, e)
			b, e = batch.Update(f, b, changes)
			fine(t, e)
			if _, e := tree.Check(f, a); e != api.OK || a.Count != b.Count {
				t.Fatalf("%v, %v: %d", a, b, e)
			}
			alike(t, f, a, b, append(more, keys...))
		}
		if r := emptied(t, f, a); r != (api.Ref{}) {
			t.Fatalf("%v", r)
		}
	}
}

// emptied takes all out of r.
func emptied(t *testing.T, f *file.File, r api.Ref) api.Ref {
	t.Helper()
	items, e := reach.List(f, r, nil, nil, 1<<20, false)
	fine(t, e)
	var l []api.Change
	for _, i := range items {
		l = append(l, api.Change{Key: i.Key, Out: true})
	}
	r, e = batch.Update(f, r, l)
	fine(t, e)
	return r
}
