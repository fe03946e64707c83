package node_test

import (
	"slices"
	"strings"
	"sync"
	"testing"

	"pandect/api"
	"pandect/node"
)

// Whatever is handed in, however long.
func TestR1NonePanics(t *testing.T) {
	long := strings.Repeat("a", 1<<20)
	far := api.Node{Items: make([]api.Item, 1<<16), Keys: make([][]byte, 1<<16), Kids: make([]api.Ref, 1<<16)}
	for _, n := range []api.Node{leafOf(long), innerOf(long, long), leaf(item("a", long)), leafOf(long, long+"a"), innerOf("a", long), far,
		{Items: far.Items}, {Keys: far.Keys}, {Kids: far.Kids}, {Keys: make([][]byte, 1), Kids: far.Kids}, {Keys: far.Keys, Kids: make([]api.Ref, 2)}} {
		for _, is := range []bool{false, true} {
			n.Leaf = is
			mayNot(t, n)
			same(t, n, n, true)
			same(t, n, leafOf("a"), false)
			node.Least(n)
			node.Count(n)
		}
	}
	for _, c := range []string{"a", "\x00", "\x01", "\x08", "\xff", "L", "N"} {
		b := []byte(strings.Repeat(c, 1<<20))
		none(t, b)
		for _, front := range []string{"L", "N", "L\x08", "N\x08", "L\xff", "N\xff"} {
			none(t, append([]byte(front), b...))
		}
	}
}

// lists are the lists of bytes in n.
func lists(n api.Node) []*[]byte {
	var out []*[]byte
	for i := range n.Items {
		out = append(out, &n.Items[i].Key, &n.Items[i].Val)
	}
	for i := range n.Keys {
		out = append(out, &n.Keys[i])
	}
	return out
}

// roomy is n with spare room behind each of its lists, and with what looks at
// all of it.
func roomy(n api.Node) (api.Node, func() string) {
	n = copied(n)
	n.Items = append(n.Items, item("spare", "room"))[:len(n.Items)]
	n.Keys = append(n.Keys, []byte("spare"))[:len(n.Keys)]
	n.Kids = append(n.Kids, api.Ref{Off: 5, Count: 5})[:len(n.Kids)]
	for _, list := range lists(n) {
		*list = append(*list, "spare room"...)[:len(*list)]
	}
	return n, func() string {
		whole := api.Node{Leaf: n.Leaf, Items: n.Items[:len(n.Items)+1], Keys: n.Keys[:len(n.Keys)+1], Kids: n.Kids[:len(n.Kids)+1]}
		out := laid(api.Node{Keys: whole.Keys[:len(whole.Kids)], Kids: whole.Kids})
		for _, list := range lists(whole) {
			out += "," + string((*list)[:cap(*list)])
		}
		return out
	}
}

func TestR3WhatIsHandedInStays(t *testing.T) {
	for _, n := range some() {
		n, look := roomy(n)
		was := look()
		may(t, n)
		node.Same(n, n)
		node.Least(n)
		node.Count(n)
		if look() != was {
			t.Errorf("%q became %q", was, look())
		}
		room := []byte(laid(n) + "spare room")
		was = string(room)
		for k := range len(room) + 1 {
			node.Take(room[:k])
			node.Take(room[:k:k])
		}
		if string(room) != was {
			t.Errorf("%q became %q", was, room)
		}
	}
}

// scribble spoils a list, and the room behind it.
func scribble(b []byte) {
	_ = append(b, "####"...)
	clear(b[:cap(b)])
}

func TestR3PutSharesNothing(t *testing.T) {
	for _, n := range some() {
		want := laid(n)
		n, _ := roomy(n)
		b, other := node.Put(n), node.Put(n)
		for _, list := range lists(n) {
			scribble(*list)
		}
		if string(b) != want {
			t.Errorf("Put kept what was handed in: %q, not %q", b, want)
		}
		scribble(b)
		if string(other) != want {
			t.Errorf("Put told what is not new: %q, not %q", other, want)
		}
	}
}

func TestR3TakeSharesNothing(t *testing.T) {
	for _, n := range some() {
		want := laid(n)
		b := []byte(want + "spare room")
		took, _ := node.Take(b[:len(want)])
		clear(b)
		if laid(took) != want {
			t.Errorf("Take kept what was handed in: %v", took)
		}
		copy(b, want+"spare room")
		other, _ := node.Take(b[:len(want)])
		for _, list := range lists(took) {
			scribble(*list)
		}
		clear(took.Items)
		clear(took.Keys)
		clear(took.Kids)
		if laid(other) != want || string(b) != want+"spare room" {
			t.Errorf("Take told what is not new: %v, %q", other, b)
		}
	}
}

// No two lists of one answer share any.
func TestR3TakenListsShareNothing(t *testing.T) {
	for _, n := range some() {
		for i := range lists(n) {
			took, _ := node.Take([]byte(laid(n)))
			list := lists(took)[i]
			want := slices.Clone(*list)
			scribble(*list)
			*list = want
			if !alike(took, n) {
				t.Errorf("the list %d is shared: %v, not %v", i, took, n)
			}
		}
	}
}

func TestR3LeastSharesNothing(t *testing.T) {
	for _, n := range some() {
		want := string(*lists(n)[0])
		n, look := roomy(n)
		was := look()
		b, other := node.Least(n), node.Least(n)
		scribble(b)
		if string(other) != want || look() != was {
			t.Errorf("Least told what is not new: %q, %q", other, look())
		}
		scribble(*lists(n)[0])
		if string(other) != want {
			t.Errorf("Least kept what was handed in: %q, not %q", other, want)
		}
	}
}

// An answer hangs on what was handed in alone: not on what was asked ahead of
// it or beside it.
func TestR4Same(t *testing.T) {
	all := some()
	var wait sync.WaitGroup
	for i := range 8 {
		wait.Go(func() {
			for j := range 100 {
				n := all[(i+j)%len(all)]
				may(t, n)
				none(t, []byte(laid(n))[1:])
				mayNot(t, api.Node{Leaf: j%2 == 0})
				least(t, n, string(*lists(n)[0]))
			}
		})
	}
	wait.Wait()
}
