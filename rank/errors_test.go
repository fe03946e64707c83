package rank_test

import (
	"bytes"
	"slices"
	"strings"
	"testing"

	"pandect/api"
	"pandect/file"
	"pandect/node"
)

// files are f, and such as lie on no disk.
func files(f *file.File) []*file.File { return []*file.File{f, nil, {}} }

// some are asks that come by the root of a tree of letters.
func some() []ask {
	return slices.Concat(pairs([]string{"", "a", "c", "z"}), places(3))
}

func TestP151ErrFormWhereNoRecordBegins(t *testing.T) {
	d, f := fresh(t)
	r := lay(t, f, over(letters("abcd"), letters("efgh")))
	ops := d.Ops()
	for _, off := range []int64{-1 << 63, -1, 0, 1, 5, slots - 1, f.End(), f.End() + 1, 1 << 24, 1 << 40, 1<<63 - 1} {
		for _, a := range some() {
			untold(t, f, api.Ref{Off: off, Count: 8}, a, api.ErrForm)
			untold(t, f, api.Ref{Off: off, Count: 1}, a, api.ErrForm)
		}
	}
	if d.Ops() != ops {
		t.Error("it is asked of the disk")
	}
	for _, off := range []int64{r.Off - 1, r.Off + 1} {
		for _, a := range some() {
			untold(t, f, api.Ref{Off: off, Count: 8}, a, api.ErrForm)
		}
	}
	_, f = fresh(t)
	for _, a := range some() {
		untold(t, f, api.Ref{Off: slots, Count: 8}, a, api.ErrForm)
	}
}

// What is there is a node, but not one of so many items.
func TestP151ErrFormOfAnotherCount(t *testing.T) {
	_, f := fresh(t)
	for _, b := range []*branch{letters("m"), letters("abcdefgh"), over(letters("abcd"), letters("efgh"))} {
		r := lay(t, f, b)
		for _, count := range []uint64{0, 1, 2, 4, 7, 8, 9, 16, 1 << 40, 1<<32 + 8, 1<<64 - 1} {
			for _, a := range some() {
				if count != r.Count {
					untold(t, f, api.Ref{Off: r.Off, Count: count}, a, api.ErrForm)
				}
			}
		}
	}
}

// What stands where a node is told to be has to be one.
func TestP151ErrFormOfNodesThatAreNone(t *testing.T) {
	_, f := fresh(t)
	var bad []api.Ref
	for _, kind := range []byte{0, 1, 3, 'L', 255} {
		off, e := f.Append(kind, node.Put(api.Node{Leaf: true, Items: letters("efgh").items}))
		fine(t, e)
		bad = append(bad, api.Ref{Off: off, Count: 4})
	}
	for _, body := range []string{"", "L", "L\x00", "L\x01\x01a\x00\x00", "M\x01\x01a\x00", "L\x02\x01b\x00\x01a\x00", "N\x00", "N\x01\x01a" + strings.Repeat("\x01", 16)} {
		off, e := f.Append(nodeKind, []byte(body))
		fine(t, e)
		bad = append(bad, api.Ref{Off: off, Count: 1}, api.Ref{Off: off})
	}
	good := letters("abcd")
	lay(t, f, good)
	for _, r := range bad {
		for _, a := range some() {
			untold(t, f, r, a, api.ErrForm)
		}
		off, e := f.Append(nodeKind, []byte(laid(api.Node{Keys: [][]byte{[]byte("a"), []byte("e")}, Kids: []api.Ref{good.at, r}})))
		fine(t, e)
		r := api.Ref{Off: off, Count: 4 + r.Count}
		for _, a := range []ask{below("f"), between("f", ""), between("a", "f"), between("c", "g"), between("f", "g")} {
			untold(t, f, r, a, api.ErrForm)
		}
		if r.Count > 4 {
			untold(t, f, r, at(4), api.ErrForm)
		}
	}
}

// A site is where in a tree a node lies: behind how many items, and between which keys.
type site struct {
	isRoot       bool
	ahead        uint64
	least, bound string // bound nothing: none
}

// by tells whether a comes by a node that lies at s, which has so many items: of each
// level by one, or by one where it begins and one where it ends.
func (a ask) by(s site, count uint64) bool {
	within := func(key string) bool { return key > s.least && (s.bound == "" || key < s.bound) }
	switch {
	case s.isRoot:
		return true
	case a.call == "at":
		return a.i >= s.ahead && a.i-s.ahead < count
	case a.call == "between" && a.to == "":
		return within(a.from)
	case a.from >= a.to:
		return within(a.from) && within(a.to)
	}
	return within(a.from) || within(a.to)
}

// reached calls do with each node and where it lies.
func reached(b *branch, s site, do func(b *branch, s site)) {
	do(b, s)
	ahead := s.ahead
	for i, kid := range b.kids {
		next := s.bound
		if i+1 < len(b.kids) {
			next = b.keys[i+1]
		}
		reached(kid, site{false, ahead, b.keys[i], next}, do)
		ahead += kid.at.Count
	}
}

// A node that is spoiled is told by each call that comes by it, and by no other: by
// Counts all others are known.
func TestP151ErrFormOnTheWay(t *testing.T) {
	l := lot(9)
	seen := map[string]int{}
	for i := range 30 {
		d, f := fresh(t)
		b := drawn(l, 1+i%3, 60)
		r, items := lay(t, f, b), b.under()
		reached(b, site{isRoot: true}, func(bad *branch, s site) {
			turn(t, d, bad.at.Off)
			for range 30 {
				if a := drawnAsk(l, items); a.by(s, bad.at.Count) {
					untold(t, f, r, a, api.ErrForm)
					seen[a.call]++
				} else {
					tells(t, f, r, items, a)
				}
			}
			for _, a := range []ask{at(s.ahead), at(s.ahead + bad.at.Count - 1), below(s.least + "\x00"), between(s.least+"\x00", "")} {
				untold(t, f, r, a, api.ErrForm)
			}
			turn(t, d, bad.at.Off)
			tells(t, f, r, items, drawnAsk(l, items))
		})
	}
	if len(seen) != 3 || seen["at"] < 100 || seen["below"] < 100 || seen["between"] < 100 {
		t.Errorf("%v", seen)
	}
}

// deep is a right tree of three levels, between each two keys of which there is room.
func deep() *branch {
	five := func(first byte) *branch {
		var kids []*branch
		for i := range byte(5) {
			kids = append(kids, leafOf(spaced(first+8*i, least)...))
		}
		return over(kids...)
	}
	return over(five(1), five(81), five(161))
}

// each hands do each node of the deep tree, in a tree of its own, and asks that come
// by that node.
func each(do func(whole, b *branch, by []ask)) {
	for i := range deep().all() {
		whole := deep()
		ahead, row := uint64(0), whole.under()
		b := whole.all()[i]
		least := string(b.under()[0].Key)
		for string(row[ahead].Key) != least {
			ahead++
		}
		last := ahead + uint64(len(b.under())) - 1
		do(whole, b, []ask{at(ahead), at(last), below(least + "\x00"), between(least+"\x00", ""), between("", string(row[last].Key)), between(least+"\x00", string(row[last].Key))})
	}
}

// wrong: b is no right tree, and each of these asks comes by what is wrong.
func wrong(t *testing.T, b *branch, by []ask) {
	t.Helper()
	_, f := fresh(t)
	r := lay(t, f, b)
	for _, a := range by {
		untold(t, f, r, a, api.ErrForm)
	}
}

// A node that does not keep to its place is none of a right tree.
func TestP151ErrFormOfPlaces(t *testing.T) {
	_, f := fresh(t)
	r := lay(t, f, deep())
	each(func(_, _ *branch, by []ask) {
		for _, a := range by {
			tells(t, f, r, deep().under(), a)
		}
	})
	each(func(whole, b *branch, by []ask) { // another least key than it has
		if b.isLeaf() {
			first := &b.items[0].Key
			for _, key := range []string{string(*first) + "\x00", string([]byte{(*first)[0] - 1}) + "a"} {
				if was := *first; was[0] != 1 && was[0] != 81 && was[0] != 161 {
					*first = []byte(key)
					wrong(t, whole, by)
					*first = was
				}
			}
		}
	})
	each(func(whole, b *branch, by []ask) { // a last key that is not below the next one's
		if !b.isLeaf() {
			return
		}
		last := &b.items[len(b.items)-1].Key
		for _, i := range whole.under() {
			if bytes.Compare(i.Key, *last) > 0 {
				*last = i.Key
				wrong(t, whole, by)
				*last = append(slices.Clone(i.Key), 0)
				wrong(t, whole, by)
				return
			}
		}
	})
	each(func(whole, b *branch, by []ask) { // too small
		if b.isLeaf() {
			b.items = b.items[:least-1]
			wrong(t, whole, slices.Concat(by[:1], by[2:]))
		} else if b != whole {
			b.keys, b.kids = b.keys[:least-1], b.kids[:least-1]
			wrong(t, whole, slices.Concat(by[:1], by[2:]))
		}
	})
	each(func(whole, b *branch, by []ask) { // elsewhere, or said to have more or fewer
		for i := range whole.kids {
			if whole.kids[i] != b {
				continue
			}
			for _, of := range []int64{-9, -1, 1, 9, 1 << 30} {
				whole.off = map[int]int64{i: of}
				wrong(t, whole, by)
				whole.off, whole.count = nil, map[int]int64{i: of}
				wrong(t, whole, slices.Concat(by[:1], by[2:]))
				whole.count = nil
			}
			whole.kids[i] = whole.kids[(i+1)%len(whole.kids)] // what lies there lies elsewhere too
			wrong(t, whole, by)
		}
	})
}

// Whichever operation fails: that is told, and the next time all is as it was.
func TestP151TheDisksErrors(t *testing.T) {
	l := lot(10)
	for i := range 16 {
		d, f := fresh(t)
		b := drawn(l, 1+i%4, 150)
		r, items := lay(t, f, b), b.under()
		for range 30 {
			a := drawnAsk(l, items)
			ops := d.Ops()
			tells(t, f, r, items, a)
			ops = d.Ops() - ops
			for n := 1; n <= ops; n++ {
				d.Fail(n)
				untold(t, f, r, a, api.ErrIO)
				d.Fail(0)
				tells(t, f, r, items, a)
			}
			d.Fail(ops + 1)
			tells(t, f, r, items, a)
			d.Fail(0)
		}
	}
}

func TestP151OfAFileThatIsNotThere(t *testing.T) {
	d, f := fresh(t)
	b := over(letters("abcd"), letters("efgh"))
	r := lay(t, f, b)
	for _, a := range some() {
		for _, f := range files(f)[1:] {
			untold(t, f, r, a, api.ErrArg)
		}
	}
	fine(t, d.Truncate("f", r.Off+1))
	for _, a := range some() {
		untold(t, f, r, a, api.ErrForm)
	}
	fine(t, d.Remove("f"))
	for _, a := range some() {
		untold(t, f, r, a, api.ErrNone)
		tells(t, f, api.Ref{}, nil, a)
	}
}

// That it is no right tree is told ahead of what the disk says, on whichever of the
// two ways either is seen.
func TestR2ErrFormGoesAhead(t *testing.T) {
	a := between("b", "k")
	for bad, kid := range []int{0, 2} {
		d, f := fresh(t)
		kids := []*branch{letters("abcd"), letters("efgh"), letters("ijkl"), letters("mnop")}
		r := lay(t, f, over(kids...))
		turn(t, d, kids[kid].at.Off)
		for n := 1; n <= 4; n++ {
			want := api.ErrForm
			if n == 1 || n == bad+2 {
				want = api.ErrIO // what is wrong was not read
			}
			d.Fail(n)
			untold(t, f, r, a, want)
			d.Fail(0)
		}
	}
}
