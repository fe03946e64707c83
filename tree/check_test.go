package tree_test

import (
	"slices"
	"strings"
	"testing"

	"pandect/api"
	"pandect/file"
)

func TestP121Example(t *testing.T) {
	if api.Fan != fan || api.Least != least || api.MaxKey != mostKey || api.MaxVal != mostVal || 2*api.Sector != slots {
		t.Fatal("nodes are others than these tests'")
	}
	_, f := fresh(t)
	checks(t, f, api.Ref{}, 0)
}

func TestP121CheckOfAnEmptyTree(t *testing.T) {
	d, f := fresh(t)
	ops := d.Ops()
	d.Fail(1) // an empty tree lies nowhere, so that nothing is asked of the disk
	checks(t, f, api.Ref{}, 0)
	if d.Ops() != ops {
		t.Errorf("%d operations", d.Ops()-ops)
	}
}

// A root that is a leaf may have as few items as it likes.
func TestP121CheckOfALeaf(t *testing.T) {
	for n := 1; n <= fan; n++ {
		right(t, letters("abcdefgh"[:n]), 1)
	}
	right(t, leafOf("\x00", "\x00\x00", "\x01", "\xfe\xff", "\xff", "\xff\xff", strings.Repeat("\xff", mostKey)), 1)
}

// leaves are of keys that rise from one to the next, each of so many.
func leaves(sizes ...int) []*branch {
	var out []*branch
	at := 'a'
	for _, n := range sizes {
		var keys []string
		for range n {
			keys = append(keys, string(at))
			at++
		}
		out = append(out, leafOf(keys...))
	}
	return out
}

// A root may have as few kids as a node may, and each of them has Least items at
// least.
func TestP121CheckOfFewItems(t *testing.T) {
	for n := 2; n <= fan; n++ {
		for i := range n {
			sizes := slices.Repeat([]int{least + i%3}, n)
			for sizes[i] = 1; sizes[i] <= fan; sizes[i]++ {
				if sizes[i] < least {
					wrong(t, over(leaves(sizes...)...))
				} else {
					right(t, over(leaves(sizes...)...), 2)
				}
			}
		}
	}
}

// An inner node that is no root has Least kids at least, however many items those
// have.
func TestP121CheckOfFewKids(t *testing.T) {
	for n := 2; n <= fan; n++ {
		for at := range 3 {
			left := leaves(slices.Repeat([]int{least, fan, least + 1}, 6)...)
			parts := []int{least, least, least}
			parts[at] = n
			var kids []*branch
			for _, part := range parts {
				kids = append(kids, over(left[:part]...))
				left = left[part:]
			}
			if n < least {
				wrong(t, over(kids...))
			} else {
				right(t, over(kids...), 3)
			}
		}
	}
}

// pushed is b with front ahead of all keys.
func pushed(b *branch, front string) *branch {
	out := &branch{kind: b.kind}
	for _, i := range b.items {
		out.items = append(out.items, item(front+string(i.Key), val(front+string(i.Key))))
	}
	for i, kid := range b.kids {
		out.keys = append(out.keys, front+b.keys[i])
		out.kids = append(out.kids, pushed(kid, front))
	}
	return out
}

// deep is a right tree of three levels, 3 * 5 * 4 items; between each two keys that
// follow each other there is room.
func deep() *branch {
	five := func(front string) *branch { return pushed(over(leaves(4, 4, 4, 4, 4)...), front) }
	return over(five("A"), five("M"), five("Z"))
}

// each hands do each node of the deep tree, in a tree of its own.
func each(do func(whole, b *branch)) {
	for i := range deep().all() {
		whole := deep()
		do(whole, whole.all()[i])
	}
}

func TestP121CheckOfThreeLevels(t *testing.T) {
	right(t, deep(), 3)
	each(func(whole, b *branch) {
		_, f := fresh(t)
		lay(t, f, whole)
		if b.isLeaf() {
			checks(t, f, b.at, 1)
		} else if b != whole {
			checks(t, f, b.at, 2)
		}
	})
}

// Each Count that is told has to be: that of the root, and of each kid.
func TestP121CheckOfCounts(t *testing.T) {
	_, f := fresh(t)
	for _, b := range []*branch{letters("m"), letters("abcdefgh"), over(leaves(4, 8)...), deep()} {
		r := lay(t, f, b)
		for _, count := range []uint64{0, 1, 2, 3, 4, 7, 8, 9, 11, 12, 13, 59, 60, 61, 1 << 40, r.Count + 1<<8, r.Count + 1<<32, 1<<64 - 1} {
			if count != r.Count {
				unchecked(t, f, api.Ref{Off: r.Off, Count: count}, api.ErrForm)
			}
		}
	}
	for _, by := range []int64{-3, -1, 1, 4, 1 << 8, 1 << 32} {
		each(func(whole, b *branch) {
			for i := range b.kids {
				b.count = map[int]int64{i: by}
				wrong(t, whole)
				b.count[(i+1)%len(b.kids)] = -by // all in all there are as many as are told
				wrong(t, whole)
			}
		})
	}
}

func TestP121CheckOfOffs(t *testing.T) {
	_, f, r := right(t, deep(), 3)
	for _, off := range []int64{-1 << 63, -1, 1, 5, slots - 1, slots + 1, r.Off - 1, r.Off + 1, f.End(), f.End() + 1, 1 << 24, 1 << 40, 1<<63 - 1} {
		unchecked(t, f, api.Ref{Off: off, Count: r.Count}, api.ErrForm)
		unchecked(t, f, api.Ref{Off: off}, api.ErrForm)
	}
	unchecked(t, f, api.Ref{Count: 1}, api.ErrForm)
	unchecked(t, f, api.Ref{Count: r.Count}, api.ErrForm)
	for _, by := range []int64{-9, -1, 1, 9, 1 << 20, 1 << 40} {
		each(func(whole, b *branch) {
			for i := range b.kids {
				b.off = map[int]int64{i: by}
				wrong(t, whole)
			}
		})
	}
}

// Where no record can begin nothing is asked of the disk, so that it cannot fail.
func TestP121CheckWhereNoneCanBegin(t *testing.T) {
	d, f, r := right(t, deep(), 3)
	d.Fail(1)
	for _, off := range []int64{-1, 0, slots - 1, f.End(), 1 << 40} {
		unchecked(t, f, api.Ref{Off: off, Count: r.Count}, api.ErrForm)
	}
	unchecked(t, f, r, api.ErrIO)
	checks(t, f, r, 3)
}

// What stands where a node is told to be has to be one.
func TestP121CheckOfNodesThatAreNone(t *testing.T) {
	for name, bad := range spoiled() {
		_, f := fresh(t)
		r := lay(t, f, bad)
		unchecked(t, f, r, api.ErrForm)
		for i := range 3 {
			kids := []*branch{letters("abcd"), letters("efgh"), letters("pqrs")}
			b := over(kids...)
			kids[i] = bad
			unchecked(t, f, lay(t, f, b), api.ErrForm)
		}
		if t.Failed() {
			t.Fatal(name)
		}
	}
	for name, do := range map[string]func(b *branch){
		"kind 0":          func(b *branch) { b.kind = 0 },
		"an event's kind": func(b *branch) { b.kind = 1 },
		"kind 3":          func(b *branch) { b.kind = 3 },
		"the letter":      func(b *branch) { b.letter = map[bool]string{true: "N", false: "L"}[b.isLeaf()] },
		"more behind it":  func(b *branch) { b.behind = "\x00" },
	} {
		each(func(whole, b *branch) {
			do(b)
			wrong(t, whole)
		})
		if t.Failed() {
			t.Fatal(name)
		}
	}
	for name, do := range map[string]func(b *branch){
		"one kid":        func(b *branch) { b.kids = b.kids[:1] },
		"no kids":        func(b *branch) { b.kids, b.letter = nil, "N" },
		"too many kids":  func(b *branch) { *b = *over(leaves(4, 4, 4, 4, 4, 4, 4, 4, 4)...) },
		"keys that fall": func(b *branch) { b.keys[1], b.keys[2] = b.keys[2], b.keys[1] },
		"a key twice":    func(b *branch) { b.keys[2] = b.keys[1] },
		"an empty key":   func(b *branch) { b.keys[0] = "" },
		"an empty kid":   func(b *branch) { b.count = map[int]int64{1: -int64(len(b.kids[1].keysUnder()))} },
		"kids that fall": func(b *branch) { b.kids[1], b.kids[2] = b.kids[2], b.kids[1] },
		"a kid twice":    func(b *branch) { b.kids[2] = b.kids[1] },
	} {
		each(func(whole, b *branch) {
			if !b.isLeaf() {
				do(b)
				wrong(t, whole)
			}
		})
		if t.Failed() {
			t.Fatal(name)
		}
	}
}

// A kid's least key is its Key: not one below, nor one above.
func TestP121CheckOfLeastKeys(t *testing.T) {
	each(func(whole, b *branch) {
		for i, key := range slices.Clone(b.keys) {
			for _, other := range []string{key + "\x00", key[:1], key[:1] + string([]byte{key[1] - 1}) + "z", "\x01" + key[1:], key + key} {
				b.keys[i] = other
				wrong(t, whole)
			}
			b.keys[i] = key
		}
	})
	each(func(whole, b *branch) {
		if b.isLeaf() {
			b.items[0].Key = append(b.items[0].Key, 0)
			wrong(t, whole)
			b.items[0].Key[2] = 255
			wrong(t, whole)
		}
	})
}

// From the root down to the leaf all say one key, but there it is another.
func TestP121CheckOfALeastKeyThatAllButTheLeafSay(t *testing.T) {
	b := deep()
	for at := b; !at.isLeaf(); at = at.kids[0] {
		at.keys[0] = "A"
	}
	wrong(t, b)
	b.kids[0].kids[0].items[0].Key = []byte("A")
	right(t, b, 3)
	b.keys[0] = "Aa"
	wrong(t, b)
}

// All keys of a kid are below the next one's, however deep the last of them lies.
func TestP121CheckOfLastKeys(t *testing.T) {
	leafKeys := deep().keysUnder()
	each(func(whole, b *branch) {
		if !b.isLeaf() {
			return
		}
		last := &b.items[3]
		next := strings.Repeat("\xff", mostKey)
		if i := slices.Index(leafKeys, string(last.Key)) + 1; i < len(leafKeys) {
			next = leafKeys[i]
			for _, key := range []string{next, next + "\x00", next + "zz", "\xff"} {
				last.Key = []byte(key)
				wrong(t, whole)
			}
		}
		below := next[:len(next)-1] + string([]byte{next[len(next)-1] - 1, '\xff'})
		last.Key = []byte(below[:min(len(below), mostKey)])
		right(t, whole, 3)
	})
}

func TestP121CheckBehindTheLastKidThereIsNoBound(t *testing.T) {
	b := deep()
	for at := b; ; at = at.kids[len(at.kids)-1] {
		if at.isLeaf() {
			at.items[3].Key = []byte(strings.Repeat("\xff", mostKey))
			break
		}
	}
	right(t, b, 3)
}

// All leaves lie equally deep.
func TestP121CheckOfUnevenLeaves(t *testing.T) {
	each(func(whole, b *branch) {
		if b == whole {
			return
		}
		// a leaf in the place of it, or a node more above its items
		key, was := b.keysUnder()[0], *b
		if b.isLeaf() {
			*b = *over(leafOf(key, key+"a", key+"b", key+"c"), leafOf(key+"d", key+"e", key+"f", key+"g"), leafOf(key+"h", key+"i", key+"j", key+"k"), leafOf(key+"l", key+"m", key+"n", key+"o"))
		} else {
			*b = *leafOf(key, key+"a", key+"b", key+"c")
		}
		wrong(t, whole)
		*b = was
		right(t, whole, 3)
	})
	for i := range 2 {
		kids := []*branch{deep(), pushed(deep(), "~")}
		kids[i] = kids[i].kids[0]
		wrong(t, over(kids...))
	}
}

// A tree of the fewest items that it may have is as deep as it may be.
func TestP12Depth(t *testing.T) {
	l := lot(4)
	for high := 2; high <= 6; high++ {
		keys := drawnKeys(l, 2*power(least, high-1))
		_, f, r := right(t, grown(l, keys, high, 2), high)
		for _, key := range keys {
			gets(t, f, r, key, val(key))
		}
	}
}

func TestP12DepthOfDrawnTrees(t *testing.T) {
	l := lot(5)
	for i := range 60 {
		high := 1 + i%5
		_, _, r := right(t, drawn(l, high), high)
		if high > 1 && r.Count < uint64(2*power(least, high-1)) || r.Count > uint64(power(fan, high)) {
			t.Errorf("%d items lie %d deep", r.Count, high)
		}
	}
}

// Whichever operation fails: that is told, and the next time all is as it was.
func TestP121CheckTellsTheDisksErrors(t *testing.T) {
	l := lot(6)
	for high := 1; high <= 4; high++ {
		d, f := fresh(t)
		r := lay(t, f, drawn(l, high))
		ops := d.Ops()
		checks(t, f, r, high)
		ops = d.Ops() - ops
		for n := 1; n <= ops; n++ {
			d.Fail(n)
			unchecked(t, f, r, api.ErrIO)
			d.Fail(0)
		}
		d.Fail(ops + 1)
		checks(t, f, r, high)
		d.Fail(0)
	}
}

func TestP121CheckOfAFileThatIsNotThere(t *testing.T) {
	d, f, r := right(t, deep(), 3)
	fine(t, d.Truncate("f", r.Off+1))
	unchecked(t, f, r, api.ErrForm)
	fine(t, d.Remove("f"))
	unchecked(t, f, r, api.ErrNone)
	checks(t, f, api.Ref{}, 0)
	for _, f := range []*file.File{nil, {}} {
		unchecked(t, f, r, api.ErrArg)
		checks(t, f, api.Ref{}, 0)
	}
}

// That it is no right tree is told ahead of what the disk says, wherever that is
// seen of what can be read.
func TestR2ErrFormGoesAhead(t *testing.T) {
	twoAreWrong := over(leaves(4, 3, 4, 3)...)
	uneven := over(over(leaves(4, 4, 4, 4)...), pushed(leaves(4)[0], "~"), pushed(leaves(4)[0], "~~"))
	for _, b := range []*branch{twoAreWrong, uneven} {
		d, f := fresh(t)
		r := lay(t, f, b)
		unchecked(t, f, r, api.ErrForm)
		d.Fail(1)
		unchecked(t, f, r, api.ErrIO) // nothing was read
		for n := 2; n <= len(b.all()); n++ {
			want := api.ErrForm
			if b == uneven && n == 2 {
				want = api.ErrIO // how deep the first kid's leaves lie is not to be seen
			}
			d.Fail(n)
			unchecked(t, f, r, want)
			d.Fail(0)
		}
	}
}
