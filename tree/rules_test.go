package tree_test

import (
	"math"
	"strings"
	"testing"

	"pandect/api"
	"pandect/file"
	"pandect/node"
	"pandect/tree"
)

// asked does all that can be asked with these arguments.
func asked(f *file.File, r api.Ref, key string) {
	tree.Get(f, r, []byte(key))
	tree.Check(f, r)
}

func TestR1NonePanics(t *testing.T) {
	_, f := fresh(t)
	r := lay(t, f, deep())
	for _, f := range []*file.File{nil, {}, f} {
		for _, off := range []int64{math.MinInt64, -1, 0, 1, slots, r.Off, f.End(), 1 << 24, math.MaxInt64} {
			for _, count := range []uint64{0, 1, 4, r.Count, 1 << 40, math.MaxUint64} {
				for _, key := range []string{"", "a", "Aa", strings.Repeat("\xff", 1<<16)} {
					asked(f, api.Ref{Off: off, Count: count}, key)
				}
			}
		}
	}
}

// written lays a node of just these kids under these letters.
func written(t *testing.T, f *file.File, keys string, kids ...api.Ref) api.Ref {
	t.Helper()
	n := api.Node{Keys: nil, Kids: kids}
	for _, c := range keys {
		n.Keys = append(n.Keys, []byte(string(c)))
	}
	at, e := f.Append(nodeKind, node.Put(n))
	fine(t, e)
	return api.Ref{Off: at, Count: node.Count(n)}
}

// A node that says of itself that it is its own kid, and two that say so of one another.
func TestR1NodesInACircle(t *testing.T) {
	for _, count := range []uint64{4, 5, 8, 9, 1 << 40} {
		for _, ahead := range []int64{0, 47} {
			_, f := fresh(t)
			var r api.Ref
			for range 2 {
				r = written(t, f, "ab", api.Ref{Off: f.End() + ahead, Count: count}, api.Ref{Off: f.End() + ahead, Count: 4})
				ahead = -ahead
			}
			for _, r := range []api.Ref{r, {Off: slots, Count: r.Count}, {Off: slots, Count: count}} {
				for _, key := range []string{"a", "b", "c"} {
					asked(f, r, key)
				}
				unchecked(t, f, r, api.ErrForm)
			}
		}
	}
}

// Nodes that lead down and down, as many as a file has.
func TestR1NodesWithoutAnEnd(t *testing.T) {
	for at := range 2 {
		_, f := fresh(t)
		r := lay(t, f, letters("abcd"))
		small := lay(t, f, letters("ijkl"))
		for f.End() < 1<<24-100 {
			kids := []api.Ref{small, small}
			kids[at] = r
			r = written(t, f, "ai", kids...)
		}
		for _, key := range []string{"a", "d", "i", "l", "z"} {
			asked(f, r, key)
		}
		unchecked(t, f, r, api.ErrForm)
	}
}

// Few nodes, but so many ways through them that nobody goes over all of them.
func TestR1NodesByManyWays(t *testing.T) {
	_, f := fresh(t)
	for _, keys := range []string{"abcd", "ab", "abcdefgh"} {
		r := lay(t, f, letters("abcd"))
		for n := r.Count; n <= 1<<40; n = r.Count {
			kids := []api.Ref{r, r, r, r, r, r, r, r}
			r = written(t, f, keys, kids[:len(keys)]...)
		}
		for _, key := range []string{"a", "d", "z"} {
			asked(f, r, key)
		}
		unchecked(t, f, r, api.ErrForm)
	}
}

// As deep as it may be in a file: 131072 items.
func TestR1DeepTrees(t *testing.T) {
	const high = 9
	_, f := fresh(t)
	var keys []string
	for i := range 2 * power(least, high-1) {
		keys = append(keys, string([]byte{byte(i >> 16), byte(i >> 8), byte(i)}))
	}
	r := lay(t, f, grown(lot(8), keys, high, 2))
	checks(t, f, r, high)
	for i := 0; i < len(keys); i += 37 {
		gets(t, f, r, keys[i], val(keys[i]))
		getsNone(t, f, r, keys[i]+"\x00")
	}
}

func TestR3WhatIsHandedInStays(t *testing.T) {
	d, f := fresh(t)
	b := deep()
	r := lay(t, f, b)
	was := text(d, "f")
	for _, key := range append(b.keysUnder(), "", "a", "zz") {
		room := []byte(key + "spare room")
		tree.Get(f, r, room[:len(key)])
		tree.Check(f, r)
		if string(room) != key+"spare room" {
			t.Errorf("%q became %q", key, room)
		}
	}
	if text(d, "f") != was || f.End() != int64(len(was)) || f.Name() != "f" || len(d.List()) != 1 {
		t.Error("the file is another one")
	}
}

// What is told is new, and shares nothing with what was handed in.
func TestR3WhatIsToldIsNew(t *testing.T) {
	d, f := fresh(t)
	b := deep()
	r := lay(t, f, b)
	was := text(d, "f")
	for _, key := range b.keysUnder() {
		room := []byte(key)
		told, _, _ := tree.Get(f, r, room)
		other, _, _ := tree.Get(f, r, room)
		_ = append(told, "########"...)
		clear(told[:cap(told)])
		if string(room) != key || string(other) != val(key) {
			t.Errorf("%q: it is shared: %q", room, other)
		}
		clear(room)
		if string(other) != val(key) {
			t.Errorf("%q: the key is kept: %q", key, other)
		}
		gets(t, f, r, key, val(key))
	}
	if text(d, "f") != was {
		t.Error("the file is another one")
	}
}

// What is told goes by what is in the file: not by what was asked ahead of it, nor
// by which File of it is asked.
func TestR4Same(t *testing.T) {
	d, f := fresh(t)
	b := deep()
	r := lay(t, f, b)
	none := lay(t, f, over(leaves(4, 3)...))
	g, e := file.Open(d, "f")
	fine(t, e)
	for range 3 {
		for _, f := range []*file.File{f, g} {
			checks(t, f, r, 3)
			unchecked(t, f, none, api.ErrForm)
			for _, key := range b.keysUnder() {
				gets(t, f, r, key, val(key))
				getsNone(t, f, r, key+"\x00")
				unget(t, f, api.Ref{Off: r.Off + 1, Count: r.Count}, key, api.ErrForm)
			}
		}
	}
	// what comes behind it in the file turns nothing
	b.kids[1].kids[1].items[1].Val = []byte("new")
	newer := lay(t, f, b)
	checks(t, g, r, 3)
	for _, i := range b.kids[1].kids[1].items {
		gets(t, g, newer, string(i.Key), string(i.Val))
		gets(t, g, r, string(i.Key), val(string(i.Key)))
	}
}
