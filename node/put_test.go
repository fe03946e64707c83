package node_test

import (
	"fmt"
	"strings"
	"testing"

	"pandect/api"
	"pandect/node"
)

func TestP91Example(t *testing.T) {
	if api.Fan != fan || api.MaxKey != mostKey || api.MaxVal != mostVal {
		t.Fatal("nodes are others than these tests'")
	}
	n := leaf(item("k", "v"))
	if b := node.Put(n); len(b) != 6 {
		t.Errorf("%d bytes: %q", len(b), b)
	}
	may(t, n)
}

// A leaf and an inner node that were laid by hand.
func TestP91Layout(t *testing.T) {
	n := leaf(item("what", "was"), item("what is", ""), item("who", "it was"))
	want := "L\x03\x04what\x03was\x07what is\x00\x03who\x06it was"
	if b := node.Put(n); string(b) != want {
		t.Errorf("%q, not %q", b, want)
	}
	takes(t, []byte(want), n)
	n = api.Node{Keys: [][]byte{[]byte("key"), []byte("of")}, Kids: []api.Ref{{Off: 0x0102030405060708, Count: 0x9a12131415}, {Off: 256, Count: mostUnder}}}
	want = "N\x02\x03key\x01\x02\x03\x04\x05\x06\x07\x08\x00\x00\x00\x9a\x12\x13\x14\x15\x02of\x00\x00\x00\x00\x00\x00\x01\x00\x00\x00\x01\x00\x00\x00\x00\x00"
	if b := node.Put(n); string(b) != want {
		t.Errorf("%q, not %q", b, want)
	}
	takes(t, []byte(want), n)
}

func TestP91WhatMayBe(t *testing.T) {
	for _, n := range some() {
		may(t, n)
	}
}

// One part that may not be is enough, whichever it is.
func TestP91WhatMayNotBe(t *testing.T) {
	mayNot(t, api.Node{})
	mayNot(t, api.Node{Leaf: true})
	for _, n := range some() {
		for _, other := range turned(n) {
			mayNot(t, other)
		}
	}
}

// Each number of items, of kids, and of keys beside the kids.
func TestP91HowMany(t *testing.T) {
	var rising []string
	for i := range 600 {
		rising = append(rising, fmt.Sprintf("%03d", i))
	}
	for many := range rising {
		n := leafOf(rising[:many]...)
		if many >= 1 && many <= fan {
			may(t, n)
		} else {
			mayNot(t, n)
		}
		n = innerOf(rising[:many]...)
		if many >= 2 && many <= fan {
			may(t, n)
		} else {
			mayNot(t, n)
		}
		for other := range 2 * fan {
			if other != many {
				mayNot(t, api.Node{Keys: innerOf(rising[:other]...).Keys, Kids: n.Kids})
				mayNot(t, api.Node{Keys: n.Keys, Kids: innerOf(rising[:other]...).Kids})
			}
		}
	}
}

// A leaf has no keys and no kids, an inner node no items: whatever these are.
func TestP91WhatIsOfTheOther(t *testing.T) {
	for _, n := range some() {
		for _, more := range []int{1, 2, fan, fan + 1} {
			other := innerOf(keys(min(more, fan), 1)...)
			if n.Leaf {
				mayNot(t, with(n, func(n *api.Node) { n.Keys = other.Keys }))
				mayNot(t, with(n, func(n *api.Node) { n.Keys = [][]byte{nil} }))
				mayNot(t, with(n, func(n *api.Node) { n.Kids = other.Kids }))
				mayNot(t, with(n, func(n *api.Node) { n.Kids = make([]api.Ref, more) }))
				mayNot(t, with(n, func(n *api.Node) { n.Keys, n.Kids = other.Keys, other.Kids }))
			} else {
				mayNot(t, with(n, func(n *api.Node) { n.Items = make([]api.Item, more) }))
				mayNot(t, with(n, func(n *api.Node) { n.Items = leafOf(keys(min(more, fan), 1)...).Items }))
			}
		}
		mayNot(t, with(n, func(n *api.Node) { n.Leaf = !n.Leaf }))
	}
}

// nil and an empty list are one.
func TestP91Nothing(t *testing.T) {
	may(t, api.Node{Leaf: true, Items: leafOf("a").Items, Keys: [][]byte{}, Kids: []api.Ref{}})
	may(t, with(innerOf("a", "b"), func(n *api.Node) { n.Items = []api.Item{} }))
	mayNot(t, api.Node{Leaf: true, Items: []api.Item{}, Keys: [][]byte{}, Kids: []api.Ref{}})
	mayNot(t, api.Node{Items: []api.Item{}, Keys: [][]byte{}, Kids: []api.Ref{}})
	for _, nothing := range [][]byte{nil, {}, []byte("not this")[:0]} {
		may(t, leaf(api.Item{Key: []byte("a"), Val: nothing}, api.Item{Key: []byte("b"), Val: nothing}))
		mayNot(t, leaf(api.Item{Key: nothing}))
		mayNot(t, leaf(api.Item{Key: []byte("a")}, api.Item{Key: nothing}))
	}
}

func TestP91EachLengthOfKeys(t *testing.T) {
	for size := range 600 {
		first, last := strings.Repeat("\x00", size), strings.Repeat("\xff", size)
		for _, n := range []api.Node{leafOf(last), leafOf("\x80", last), leafOf(first, "\x80"), innerOf("\x80", last), innerOf(first, "\x80")} {
			if size >= 1 && size <= mostKey {
				may(t, n)
			} else {
				mayNot(t, n)
			}
		}
	}
}

func TestP91EachLengthOfVals(t *testing.T) {
	for size := range 600 {
		for i := range 3 {
			n := with(leafOf("a", "b", "c"), func(n *api.Node) { n.Items[i].Val = drawn(size) })
			if size <= mostVal {
				may(t, n)
			} else {
				mayNot(t, n)
			}
		}
	}
}

func TestP91EachByte(t *testing.T) {
	for c := range 256 {
		one := string([]byte{byte(c)})
		for _, n := range []int{1, 2, mostKey} {
			key := strings.Repeat(one, n)
			may(t, leaf(item(key, strings.Repeat(one, 3*n))))
			if c < 255 {
				may(t, leafOf(key, "\xff"))
				may(t, innerOf(key, "\xff"))
			}
		}
	}
}

// Keys rise as their bytes do, from 0 to 255, and what is longer is above what
// it begins with.
func TestP91Rising(t *testing.T) {
	some := []string{"", "\x00", "\x00\x00", "\x01", "a", "a\x00", "aa", "ab", "b", "\x7f", "\x80", "\xff", "\xff\xff"}
	asks := func(is bool, keys ...string) {
		t.Helper()
		for _, n := range []api.Node{leafOf(keys...), innerOf(keys...)} {
			if is {
				may(t, n)
			} else {
				mayNot(t, n)
				none(t, []byte(laid(n)))
			}
		}
	}
	for i, a := range some {
		for j, b := range some {
			asks(0 < i && i < j, a, b)
			for k, c := range some {
				asks(0 < i && i < j && j < k, a, b, c)
			}
		}
	}
}

// Kids of each number, in each place: they need not rise.
func TestP91EachKid(t *testing.T) {
	for many := 2; many <= fan; many++ {
		n := innerOf(keys(many, 1)...)
		for i := range many {
			for _, off := range offs() {
				may(t, with(n, func(n *api.Node) { n.Kids[i].Off = off }))
			}
			for _, count := range counts() {
				may(t, with(n, func(n *api.Node) { n.Kids[i].Count = count }))
			}
			mayNot(t, with(n, func(n *api.Node) { n.Kids[i] = api.Ref{} }))
		}
	}
	for off := int64(-300); off < 300; off++ {
		n := with(innerOf("a", "b"), func(n *api.Node) { n.Kids[1].Off = off })
		if off >= 1 {
			may(t, n)
		} else {
			mayNot(t, n)
		}
	}
}

// What follows: no node is longer than a record may be.
func TestP9NoneIsTooLong(t *testing.T) {
	if n := len(node.Put(longestLeaf())); n != 2+fan*(2+mostKey+mostVal) || n > api.MaxBody {
		t.Errorf("%d bytes", n)
	}
	if n := len(node.Put(longestInner())); n != 2+fan*(1+mostKey+16) || n > api.MaxBody {
		t.Errorf("%d bytes", n)
	}
}
