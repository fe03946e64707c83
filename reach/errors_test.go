package reach_test

import (
	"bytes"
	"slices"
	"strings"
	"testing"

	"pandect/api"
	"pandect/file"
	"pandect/node"
)

// some are asks that come by the root of a tree of letters.
func some() []ask {
	return asks([]string{"", "a", "c", "z"}, 1, 5, all)
}

func TestP141ErrFormWhereNoRecordBegins(t *testing.T) {
	d, f := fresh(t)
	r := lay(t, f, over(letters("abcd"), letters("efgh")))
	ops := d.Ops()
	for _, off := range []int64{-1 << 63, -1, 0, 1, 5, slots - 1, f.End(), f.End() + 1, 1 << 24, 1 << 40, 1<<63 - 1} {
		for _, a := range some() {
			unlisted(t, f, api.Ref{Off: off, Count: 8}, a, api.ErrForm)
			unlisted(t, f, api.Ref{Off: off, Count: 1}, a, api.ErrForm)
		}
	}
	if d.Ops() != ops {
		t.Error("it is asked of the disk")
	}
	for _, off := range []int64{r.Off - 1, r.Off + 1} {
		unlisted(t, f, api.Ref{Off: off, Count: 8}, whole(), api.ErrForm)
	}
	_, f = fresh(t)
	unlisted(t, f, api.Ref{Off: slots, Count: 8}, whole(), api.ErrForm)
}

// What is there is a node, but not one of so many items.
func TestP141ErrFormOfAnotherCount(t *testing.T) {
	_, f := fresh(t)
	for _, b := range []*branch{letters("m"), letters("abcdefgh"), over(letters("abcd"), letters("efgh"))} {
		r := lay(t, f, b)
		for _, count := range []uint64{0, 1, 2, 4, 7, 8, 9, 16, 1 << 40, 1<<32 + 8, 1<<64 - 1} {
			for _, a := range some() {
				if count != r.Count {
					unlisted(t, f, api.Ref{Off: r.Off, Count: count}, a, api.ErrForm)
				}
			}
		}
	}
}

// What stands where a node is told to be has to be one.
func TestP141ErrFormOfNodesThatAreNone(t *testing.T) {
	_, f := fresh(t)
	var bad []api.Ref
	for _, kind := range []byte{0, 1, 3, 'L', 255} {
		at, e := f.Append(kind, node.Put(api.Node{Leaf: true, Items: letters("efgh").items}))
		fine(t, e)
		bad = append(bad, api.Ref{Off: at, Count: 4})
	}
	for _, body := range []string{"", "L", "L\x00", "L\x01\x01a\x00\x00", "M\x01\x01a\x00", "L\x02\x01b\x00\x01a\x00", "N\x00", "N\x01\x01a" + strings.Repeat("\x01", 16)} {
		at, e := f.Append(nodeKind, []byte(body))
		fine(t, e)
		bad = append(bad, api.Ref{Off: at, Count: 1}, api.Ref{Off: at})
	}
	good := letters("abcd")
	lay(t, f, good)
	for _, r := range bad {
		for _, a := range some() {
			unlisted(t, f, r, a, api.ErrForm)
		}
		at, e := f.Append(nodeKind, []byte(laid(api.Node{Keys: [][]byte{[]byte("a"), []byte("e")}, Kids: []api.Ref{good.at, r}})))
		fine(t, e)
		r := api.Ref{Off: at, Count: 4 + r.Count}
		unlisted(t, f, r, whole(), api.ErrForm)
		unlisted(t, f, r, ask{"e", "", 1, false}, api.ErrForm)
		unlisted(t, f, r, ask{"", "", 1, true}, api.ErrForm)
	}
}

// by tells whether a comes by a node whose keys are from least on and below bound
// (nothing: no bound): they may be asked for, and what goes ahead is too little.
func (a ask) by(items []api.Item, least, bound string) bool {
	if a.to != "" && a.to <= least || bound != "" && bound <= a.from {
		return false
	}
	first := 0
	for _, i := range a.within(items) {
		if key := string(i.Key); !a.back && key < least || a.back && bound != "" && key >= bound {
			first++
		}
	}
	return first < a.limit
}

// reached calls do with each node and the bounds of its keys, as its place says.
func reached(b *branch, least, bound string, do func(b *branch, least, bound string)) {
	do(b, least, bound)
	for i, kid := range b.kids {
		next := bound
		if i+1 < len(b.kids) {
			next = b.keys[i+1]
		}
		reached(kid, b.keys[i], next, do)
	}
}

// A node that is spoiled is told by each list that comes by it, and by no other.
func TestP141ErrFormOnTheWay(t *testing.T) {
	l := lot(9)
	for i := range 30 {
		d, f := fresh(t)
		b := drawn(l, 1+i%3, 60)
		r, items := lay(t, f, b), b.under()
		reached(b, "", "", func(bad *branch, least, bound string) {
			turn(t, d, bad.at.Off)
			for range 20 {
				if a := drawnAsk(l, items); a.by(items, least, bound) {
					unlisted(t, f, r, a, api.ErrForm)
				} else {
					lists(t, f, r, items, a)
				}
			}
			unlisted(t, f, r, whole(), api.ErrForm)
			unlisted(t, f, r, ask{limit: all, back: true}, api.ErrForm)
			turn(t, d, bad.at.Off)
			lists(t, f, r, items, whole())
		})
	}
}

// wrong: b is no right tree, and whoever lists all comes by what is wrong.
func wrong(t *testing.T, b *branch) {
	t.Helper()
	_, f := fresh(t)
	r := lay(t, f, b)
	unlisted(t, f, r, whole(), api.ErrForm)
	unlisted(t, f, r, ask{limit: all, back: true}, api.ErrForm)
}

// deep is a right tree of three levels, between each two keys of which there is room.
func deep() *branch {
	five := func(first byte) *branch {
		var kids []*branch
		for i := range byte(5) {
			kids = append(kids, leafOf(spaced(first+8*i, least)...))
		}
		return over(kids...)
	}
	return over(five(1), five(81), five(161))
}

// each hands do each node of the deep tree, in a tree of its own.
func each(do func(whole, b *branch)) {
	for i := range deep().all() {
		whole := deep()
		do(whole, whole.all()[i])
	}
}

// A node that does not keep to its place is none of a right tree.
func TestP141ErrFormOfPlaces(t *testing.T) {
	_, f := fresh(t)
	lists(t, f, lay(t, f, deep()), deep().under(), whole())
	each(func(whole, b *branch) {
		for i := range b.kids { // another least key than it has
			was := b.keys[i]
			for _, key := range []string{was + "\x00", string([]byte{was[0] - 1}) + "a"} {
				b.keys[i] = key
				wrong(t, whole)
			}
			b.keys[i] = was
		}
		for i := range b.kids { // more items, or elsewhere
			for _, by := range []int64{-9, -1, 1, 9, 1 << 30} {
				b.count = map[int]int64{i: by}
				wrong(t, whole)
				b.count, b.off = nil, map[int]int64{i: by}
				wrong(t, whole)
				b.off = nil
			}
		}
	})
	each(func(whole, b *branch) { // a last key that is not below the next one's
		if !b.isLeaf() {
			return
		}
		last := &b.items[len(b.items)-1].Key
		for _, i := range whole.under() {
			if bytes.Compare(i.Key, *last) > 0 {
				*last = i.Key
				wrong(t, whole)
				*last = append(slices.Clone(i.Key), 0)
				wrong(t, whole)
				return
			}
		}
	})
	each(func(whole, b *branch) { // too small
		if b.isLeaf() {
			b.items = b.items[:least-1]
			wrong(t, whole)
		} else if b != whole {
			b.keys, b.kids = b.keys[:least-1], b.kids[:least-1]
			wrong(t, whole)
		}
	})
	each(func(whole, b *branch) { // what lies there lies elsewhere too
		for i := range b.kids {
			b.kids[i] = b.kids[(i+1)%len(b.kids)]
			wrong(t, whole)
			b.keys[i] = string(b.kids[i].under()[0].Key)
			wrong(t, whole)
			return
		}
	})
}

// Whichever operation fails: that is told, and the next time all is as it was.
func TestP141TheDisksErrors(t *testing.T) {
	l := lot(10)
	for i := range 16 {
		d, f := fresh(t)
		b := drawn(l, 1+i%4, 150)
		r, items := lay(t, f, b), b.under()
		for range 12 {
			a := drawnAsk(l, items)
			ops := d.Ops()
			lists(t, f, r, items, a)
			ops = d.Ops() - ops
			for n := 1; n <= ops; n++ {
				d.Fail(n)
				unlisted(t, f, r, a, api.ErrIO)
				d.Fail(0)
				lists(t, f, r, items, a)
			}
			d.Fail(ops + 1)
			lists(t, f, r, items, a)
			d.Fail(0)
		}
	}
}

func TestP141OfAFileThatIsNotThere(t *testing.T) {
	d, f := fresh(t)
	b := over(letters("abcd"), letters("efgh"))
	r := lay(t, f, b)
	for _, a := range some() {
		for _, f := range []*file.File{nil, {}} {
			unlisted(t, f, r, a, api.ErrArg)
			lists(t, f, api.Ref{}, nil, a)
		}
	}
	fine(t, d.Truncate("f", r.Off+1))
	for _, a := range some() {
		unlisted(t, f, r, a, api.ErrForm)
	}
	fine(t, d.Remove("f"))
	for _, a := range some() {
		unlisted(t, f, r, a, api.ErrNone)
		lists(t, f, api.Ref{}, nil, a)
	}
}

// That it is no right tree is told ahead of what the disk says, wherever that is seen
// of what can be read.
func TestR2ErrFormGoesAhead(t *testing.T) {
	for at := range 4 {
		for _, back := range []bool{false, true} {
			d, f := fresh(t)
			kids := []*branch{letters("abcd"), letters("efgh"), letters("ijkl"), letters("mnop")}
			r := lay(t, f, over(kids...))
			turn(t, d, kids[at].at.Off)
			for n := 1; n <= 5; n++ {
				want := api.ErrForm
				turned := at + 2
				if back {
					turned = 5 - at
				}
				if n == 1 || n == turned {
					want = api.ErrIO // what is wrong was not read
				}
				for _, limit := range []int{13, 16, all} {
					d.Fail(n)
					unlisted(t, f, r, ask{"", "", limit, back}, want)
					d.Fail(0)
				}
			}
		}
	}
}
