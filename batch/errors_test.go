package batch_test

import (
	"slices"
	"strings"
	"testing"

	"pandect/api"
	"pandect/batch"
	"pandect/disk"
	"pandect/file"
	"pandect/node"
)

// unlike are changes that do not rise.
func unlike() [][]api.Change {
	long, high := strings.Repeat("k", mostKey+1), strings.Repeat("v", mostVal+1)
	return [][]api.Change{
		{{}}, {{Out: true}}, {put("", "v")}, {put(long, "")}, {out(long)}, {put("a", high)},
		{{Key: []byte("a"), Val: []byte("v"), Out: true}}, {{Key: []byte("a"), Val: []byte(high), Out: true}},
		puts("b", "a"), puts("a", "a"), outs("b", "a"), outs("a", "a"), {put("a", ""), out("a")}, {out("a"), put("a", "")},
		puts("a", "b", "c", "c"), puts("a", "c", "b", "d"), append(puts(letters("abcdefghijkl")...), out("")), append(outs("a"), put(long, "")),
	}
}

// ErrArg goes ahead of all others, and nothing is asked of the disk.
func TestP131ErrArg(t *testing.T) {
	d, f := fresh(t)
	r, _ := smallest(t, f, 3)
	end, ops := f.End(), d.Ops()
	for _, l := range unlike() {
		for _, f := range []*file.File{f, nil, {}} {
			for _, r := range []api.Ref{{}, r, {Off: 5, Count: 1}, {Off: r.Off}, {Off: -1, Count: 1 << 50}} {
				d.Fail(1)
				fails(t, f, r, l, api.ErrArg)
			}
		}
	}
	if f.End() != end || d.Ops() != ops {
		t.Error("something is done")
	}
	d.Fail(0)
	holds(t, f, r, look(t, f, r).items)
	updates(t, d, f, r, []api.Change{put("a", strings.Repeat("v", mostVal)), out(strings.Repeat("k", mostKey))})
}

// some are changes of a tree of these keys that need all that there is to be done:
// nodes that are parted, and such that are joined.
func some(keys []string) [][]api.Change {
	half := len(keys) / 2
	return [][]api.Change{
		{put(keys[0], "other")}, {put(keys[half], "other")}, {put(keys[len(keys)-1]+"z", "new")},
		outs(keys[half]), outs(keys[:half]...), outs(keys[half:]...), outs(keys[min(1, half):half]...), append(outs(keys[1:]...), put("\xff", "new")),
		slices.Concat(outs(keys[:half]...), puts(keys[half]+"a", keys[half]+"b", keys[half]+"c", keys[half]+"d", keys[half]+"e")),
	}
}

// Whichever operation fails, that is told, the tree is as it was, what was appended
// holds nothing, and the next time all is done.
func TestP131TheDisksErrors(t *testing.T) {
	for high := 1; high <= 4; high++ {
		_, g := fresh(t)
		_, keys := smallest(t, g, high)
		for _, l := range some(keys) {
			d, f := fresh(t)
			r, _ := smallest(t, f, high)
			was := look(t, f, r).items
			ops := d.Ops()
			_, e := batch.Update(f, r, l)
			fine(t, e)
			ops = d.Ops() - ops
			for n := 1; n <= ops; n++ {
				d.Fail(n)
				fails(t, f, r, l, api.ErrIO)
				d.Fail(0)
				holds(t, f, r, was)
			}
			d.Fail(ops + 1)
			_, e = batch.Update(f, r, l)
			fine(t, e)
			d.Fail(0)
			updates(t, d, f, r, l)
		}
	}
}

// There is room, or there is a byte too few, or many.
func TestP131ErrFull(t *testing.T) {
	for high := 1; high <= 3; high++ {
		_, g := fresh(t)
		_, keys := smallest(t, g, high)
		end := g.End()
		for _, l := range some(keys) {
			d, f := fresh(t)
			r, _ := smallest(t, f, high)
			want, _ := updates(t, d, f, r, l)
			need := f.End()
			for less := int64(1); end <= need-less; less += 1 + less/9 {
				_, f := roomy(t, need-less)
				r, _ := smallest(t, f, high)
				fails(t, f, r, l, api.ErrFull)
				holds(t, f, r, look(t, f, r).items)
			}
			d, f = roomy(t, need)
			r, _ = smallest(t, f, high)
			if got, _ := updates(t, d, f, r, l); got != want {
				t.Errorf("%v, not %v", got, want)
			}
		}
	}
	_, f := roomy(t, slots)
	fails(t, f, api.Ref{}, puts("a"), api.ErrFull)
}

func TestP131OfAFileThatIsNotThere(t *testing.T) {
	d, f := fresh(t)
	r, keys := smallest(t, f, 2)
	for _, f := range []*file.File{nil, {}} {
		fails(t, f, r, puts("a"), api.ErrArg)
		fails(t, f, api.Ref{}, puts("a"), api.ErrArg)
	}
	fine(t, d.Remove("f"))
	for _, l := range some(keys) {
		fails(t, f, r, l, api.ErrNone)
	}
	fails(t, f, api.Ref{}, puts("a"), api.ErrNone)
}

func TestP131ErrFormOfARootThatIsNone(t *testing.T) {
	_, f := fresh(t)
	r, keys := smallest(t, f, 3)
	one := leafOf(t, f, "a")
	var refs []api.Ref
	for _, off := range []int64{-1 << 63, -1, 1, 5, slots - 1, slots + 1, r.Off - 1, r.Off + 1, f.End(), f.End() + 1, 1 << 24, 1 << 40, 1<<63 - 1} {
		refs = append(refs, api.Ref{Off: off, Count: r.Count}, api.Ref{Off: off})
	}
	for _, count := range []uint64{0, 1, 31, 33, 1 << 40, 1<<32 + 32, 1<<64 - 1} {
		refs = append(refs, api.Ref{Off: r.Off, Count: count}, api.Ref{Off: 0, Count: max(count, 2)})
	}
	refs = append(refs, api.Ref{Off: one.Off}, api.Ref{Off: one.Off, Count: 2}, api.Ref{Count: 1})
	for _, kind := range []byte{0, 1, 3, 'L', 255} {
		at, e := f.Append(kind, node.Put(api.Node{Leaf: true, Items: []api.Item{item("a", "1")}}))
		fine(t, e)
		refs = append(refs, api.Ref{Off: at, Count: 1})
	}
	for _, body := range []string{"", "L", "L\x00", "L\x01\x01a\x00\x00", "M\x01\x01a\x00", "L\x02\x01b\x00\x01a\x00"} {
		at, e := f.Append(nodeKind, []byte(body))
		fine(t, e)
		refs = append(refs, api.Ref{Off: at, Count: 1}, api.Ref{Off: at, Count: 2})
	}
	end := f.End()
	for _, r := range refs {
		for _, l := range append(some(keys), puts("a"), outs("a"), outs("none")) {
			fails(t, f, r, l, api.ErrForm)
		}
	}
	if f.End() != end {
		t.Error("something is appended")
	}
}

// turn turns a bit of the record at off, or turns it back.
func turn(t *testing.T, d *disk.Disk, off int64) {
	t.Helper()
	b, e := d.Read("f", off+around, 1)
	fine(t, e)
	fine(t, d.Write("f", off+around, []byte{b[0] ^ 4}))
}

// way is where the nodes lie that one comes by on the way to key.
func way(t *testing.T, f *file.File, r api.Ref, key string) []int64 {
	t.Helper()
	_, body, e := f.Read(r.Off)
	fine(t, e)
	n, e := node.Take(body)
	fine(t, e)
	if n.Leaf {
		return []int64{r.Off}
	}
	at := 0
	for at+1 < len(n.Keys) && string(n.Keys[at+1]) <= key {
		at++
	}
	return append(way(t, f, n.Kids[at], key), r.Off)
}

// Each node that leads to what is changed is told if it is spoiled.
func TestP131ErrFormOnTheWay(t *testing.T) {
	for high := 1; high <= 4; high++ {
		d, f := fresh(t)
		r, keys := smallest(t, f, high)
		was := look(t, f, r).items
		for _, key := range []string{"\x00", keys[0], keys[len(keys)/3], keys[len(keys)-1], "\xff"} {
			for _, off := range way(t, f, r, key) {
				turn(t, d, off)
				for _, l := range [][]api.Change{puts(key), outs(key), append(outs("\x00\x00"), puts(key+"\xff")...)} {
					fails(t, f, r, l, api.ErrForm)
				}
				turn(t, d, off)
				holds(t, f, r, was)
			}
		}
	}
}

// Where the leaf beside a small one is spoiled, they can't be joined.
func TestP131ErrFormBeside(t *testing.T) {
	d, f := fresh(t)
	keys := numbered(8)
	r := leavesOf(t, f, keys, 4, 4)
	offs := look(t, f, r).offs
	for i, at := range []int{2, 1} {
		turn(t, d, offs[at])
		for n := 1; n < 4; n++ {
			fails(t, f, r, outs(keys[4*i:4*i+n]...), api.ErrForm)
		}
		turn(t, d, offs[at])
	}
	updates(t, d, f, r, outs(keys[:3]...))
}

// A leaf that is alone in its node and small is joined with one of the node beside
// it: that one is told, too, if it is spoiled.
func TestP131ErrFormBesideInTheNextNode(t *testing.T) {
	d, f := fresh(t)
	r, keys := smallest(t, f, 3)
	half := len(keys) / 2
	for _, x := range []struct {
		beside string
		l      []api.Change
	}{{keys[half], outs(keys[1:half]...)}, {keys[half-1], outs(keys[half+1:]...)}} {
		for _, off := range way(t, f, r, x.beside) {
			turn(t, d, off)
			fails(t, f, r, x.l, api.ErrForm)
			turn(t, d, off)
		}
		updates(t, d, f, r, x.l)
	}
}

// wrong: r is no right tree, and each of these changes comes by what is wrong.
func wrong(t *testing.T, f *file.File, r api.Ref, l ...[]api.Change) {
	t.Helper()
	for _, l := range l {
		fails(t, f, r, l, api.ErrForm)
	}
}

// A node on the way that does not keep to its place is none of a right tree.
func TestP131ErrFormOfPlaces(t *testing.T) {
	_, f := fresh(t)
	a, b := leafOf(t, f, letters("abcd")...), leafOf(t, f, letters("efgh")...)
	all := [][]api.Change{puts("e"), outs("e"), puts("h"), outs("z"), outs("e", "f", "g", "h")}
	wrong(t, f, innerOf(t, f, letters("ad"), a, b), append(all, puts("d"))...)   // its least key is another
	wrong(t, f, innerOf(t, f, letters("af"), a, b), puts("f"), outs("g"))        // and here
	wrong(t, f, innerOf(t, f, letters("ac"), a, b), outs("a"), outs("b"))        // its last keys are not below the next one's
	wrong(t, f, innerOf(t, f, letters("ae"), a, leafOf(t, f, "e", "f")), all...) // it is too small
	wrong(t, f, innerOf(t, f, letters("ae"), a, leafOf(t, f, "e")), all...)
	for _, count := range []uint64{1, 3, 5, 8, 1 << 40} {
		wrong(t, f, innerOf(t, f, letters("ae"), a, api.Ref{Off: b.Off, Count: count}), all...)
	}
	for _, off := range []int64{1, 5, b.Off - 1, b.Off + 1, f.End() + 500, 1 << 40} {
		wrong(t, f, innerOf(t, f, letters("ae"), a, api.Ref{Off: off, Count: 4}), all...)
	}
	few := leavesOf(t, f, letters("ijklmnopqrst"), 4, 4, 4)
	wrong(t, f, innerOf(t, f, letters("ai"), leavesOf(t, f, letters("abcdefgh"), 4, 4), few), puts("b"), outs("z"))
}

// Leaves that are seen to lie at unlike depths are those of no right tree, whether
// they are joined with one another or not.
func TestP131ErrFormOfUnevenLeaves(t *testing.T) {
	for at := range 3 {
		_, f := fresh(t)
		var kids []api.Ref
		keys := numbered(48)
		for i := range 3 {
			if own := keys[16*i : 16*i+16]; i == at {
				kids = append(kids, leafOf(t, f, own[:5]...))
			} else {
				kids = append(kids, leavesOf(t, f, own, 4, 4, 4, 4))
			}
		}
		r := innerOf(t, f, []string{keys[0], keys[16], keys[32]}, kids...)
		other := (at + 1) % 3
		both := []string{keys[16*at+1], keys[16*other+1]}
		slices.Sort(both)
		wrong(t, f, r, outs(both...), puts(both...), outs(keys[16*at:16*at+2]...), puts(keys[0], keys[16], keys[32]))
		if small := 16 * max(1, 2*at); small < len(keys) { // joined with the leaf
			wrong(t, f, r, outs(keys[small:small+5]...), outs(keys[small+3:small+16]...))
		}
	}
}

// Under a node that tells of as many items as may be there is room for no other.
func TestP131ErrFormOfTooMany(t *testing.T) {
	_, f := fresh(t)
	keys := letters("aefghijklmnop")
	full := innerOf(t, f, keys[:4], leafOf(t, f, letters("abcd")...), api.Ref{Off: 999, Count: 1<<40 - 6}, api.Ref{Off: 999, Count: 1}, api.Ref{Off: 999, Count: 1})
	r := innerOf(t, f, letters("az"), full, api.Ref{Off: 999, Count: 4})
	fails(t, f, r, puts("aa"), api.ErrForm)
	if got, e := batch.Update(f, r, puts("a")); got.Count != r.Count || e != api.OK {
		t.Errorf("%v, %d", got, e)
	}
}
