package tree_test

import (
	"math/rand/v2"
	"slices"
	"testing"

	"pandect/api"
	"pandect/tree"
)

// anyOf is a node of b that is drawn.
func anyOf(l *rand.Rand, b *branch) *branch {
	all := b.all()
	return all[l.IntN(len(all))]
}

// turns are what may become of a node, whether it stays one of a right tree or not.
func turns() []func(l *rand.Rand, whole, b *branch) {
	return []func(l *rand.Rand, whole, b *branch){
		func(l *rand.Rand, whole, b *branch) { b.kind = byte(l.IntN(4)) },
		func(l *rand.Rand, whole, b *branch) {
			if b.isLeaf() && len(b.items) > 0 {
				i := l.IntN(len(b.items))
				b.items = slices.Delete(b.items, i, i+1)
			}
		},
		func(l *rand.Rand, whole, b *branch) {
			if b.isLeaf() && len(b.items) > 0 {
				b.items[l.IntN(len(b.items))].Key = []byte(drawnKeys(l, 1)[0])
			}
		},
		func(l *rand.Rand, whole, b *branch) {
			if b.isLeaf() && len(b.items) > 0 {
				i := l.IntN(len(b.items))
				b.items[i] = item(string(b.items[i].Key)+"\x00", "new")
			}
		},
		func(l *rand.Rand, whole, b *branch) {
			if b.isLeaf() && len(b.items) > 0 {
				b.items = append(b.items, item(string(b.items[len(b.items)-1].Key)+"\x00", "new"))
			}
		},
		func(l *rand.Rand, whole, b *branch) {
			if !b.isLeaf() {
				b.keys[l.IntN(len(b.keys))] = drawnKeys(l, 1)[0]
			}
		},
		func(l *rand.Rand, whole, b *branch) {
			if !b.isLeaf() {
				b.count = map[int]int64{l.IntN(len(b.kids)): int64(l.IntN(3) - 1)}
			}
		},
		func(l *rand.Rand, whole, b *branch) {
			if !b.isLeaf() {
				b.off = map[int]int64{l.IntN(len(b.kids)): int64(l.IntN(3) - 1)}
			}
		},
		func(l *rand.Rand, whole, b *branch) {
			if !b.isLeaf() {
				i := l.IntN(len(b.kids))
				b.keys, b.kids = slices.Delete(b.keys, i, i+1), slices.Delete(b.kids, i, i+1)
			}
		},
		// another node in its place, what is said of it as it should be or not
		func(l *rand.Rand, whole, b *branch) {
			if other := anyOf(l, whole); !b.isLeaf() && !slices.Contains(other.all(), b) {
				i := l.IntN(len(b.kids))
				b.kids[i] = other
				if l.IntN(2) == 0 && len(other.keysUnder()) > 0 {
					b.keys[i] = other.keysUnder()[0]
				}
			}
		},
		// its kids are its parent's
		func(l *rand.Rand, whole, b *branch) {
			if !b.isLeaf() {
				i := l.IntN(len(b.kids))
				kid := b.kids[i]
				if b.keys = slices.Delete(b.keys, i, i+1); !kid.isLeaf() {
					b.keys = slices.Insert(b.keys, i, kid.keys...)
				}
				b.kids = slices.Replace(b.kids, i, i+1, kid.kids...)
			}
		},
		// two halves of it in its place
		func(l *rand.Rand, whole, b *branch) {
			if half := len(b.kids) / 2; half > 1 && l.IntN(2) == 0 {
				low := &branch{kind: nodeKind, keys: slices.Clone(b.keys[:half]), kids: slices.Clone(b.kids[:half])}
				high := &branch{kind: nodeKind, keys: slices.Clone(b.keys[half:]), kids: slices.Clone(b.kids[half:])}
				*b = branch{kind: nodeKind, keys: []string{low.keys[0], high.keys[0]}, kids: []*branch{low, high}}
			}
		},
	}
}

func TestP121CheckAsThePlainOne(t *testing.T) {
	l := lot(7)
	seen := map[bool]int{}
	for i := range 6000 {
		_, f := fresh(t)
		b := drawn(l, 1+i%3)
		for range l.IntN(3) {
			turns()[l.IntN(len(turns()))](l, b, anyOf(l, b))
		}
		r := lay(t, f, b)
		keys, depth, is := plain(f, r, true)
		seen[is]++
		if !is {
			unchecked(t, f, r, api.ErrForm)
			continue
		}
		checks(t, f, r, depth)
		for i := 0; i < len(keys); i += 1 + len(keys)/20 {
			key := keys[i]
			if _, ok, e := tree.Get(f, r, []byte(key)); !ok || e != api.OK {
				t.Errorf("%q: %v, %d", key, ok, e)
			}
		}
		if t.Failed() {
			t.Fatalf("the %d-th", i)
		}
	}
	if seen[true] < 500 || seen[false] < 500 {
		t.Errorf("too few of one kind: %v", seen)
	}
}
