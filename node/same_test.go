package node_test

import (
	"slices"
	"testing"

	"pandect/api"
	"pandect/node"
)

// same asks both ways.
func same(t *testing.T, a, b api.Node, want bool) {
	t.Helper()
	if node.Same(a, b) != want || node.Same(b, a) != want {
		t.Errorf("%v, %v: not %v", a, b, want)
	}
}

func TestP91SameOfAlike(t *testing.T) {
	for _, n := range append(some(), api.Node{}, api.Node{Leaf: true}) {
		same(t, n, n, true)
		same(t, n, copied(n), true)
	}
}

// nil and an empty list are one.
func TestP91SameOfNothing(t *testing.T) {
	for _, n := range append(some(), api.Node{}, api.Node{Leaf: true}) {
		other := with(n, func(n *api.Node) {
			n.Items = append([]api.Item{}, n.Items...)
			n.Keys = append([][]byte{}, n.Keys...)
			n.Kids = append([]api.Ref{}, n.Kids...)
		})
		same(t, n, other, true)
	}
	nothing := [][]byte{nil, {}, []byte("not this")[:0]}
	for _, a := range nothing {
		for _, b := range nothing {
			same(t, leaf(api.Item{Key: []byte("a"), Val: a}), leaf(api.Item{Key: []byte("a"), Val: b}), true)
			same(t, leaf(api.Item{Key: a}), leaf(api.Item{Key: b}), true)
			same(t, api.Node{Keys: [][]byte{a}}, api.Node{Keys: [][]byte{b}}, true)
		}
	}
}

// One thing that is unlike is enough, whichever it is and wherever.
func TestP91SameOfUnlike(t *testing.T) {
	for _, n := range some() {
		for _, other := range append(turned(n), unlike(n)...) {
			same(t, n, other, false)
			same(t, other, copied(other), true)
		}
	}
	all := some()
	for i, n := range all {
		for j := range i {
			same(t, n, all[j], alike(n, all[j]))
		}
	}
}

// unlike makes nodes of n that are longer, shorter, or of one other thing.
func unlike(n api.Node) []api.Node {
	var out []api.Node
	set := func(do func(n *api.Node)) { out = append(out, with(n, do)) }
	set(func(n *api.Node) { n.Leaf = !n.Leaf })
	set(func(n *api.Node) { n.Items = append(n.Items, api.Item{}) })
	set(func(n *api.Node) { n.Keys = append(n.Keys, nil) })
	set(func(n *api.Node) { n.Kids = append(n.Kids, api.Ref{}) })
	for i := range n.Items {
		set(func(n *api.Node) { n.Items = slices.Delete(n.Items, i, i+1) })
		set(func(n *api.Node) { n.Items[i].Key[len(n.Items[i].Key)-1] ^= 1 })
		set(func(n *api.Node) { n.Items[i].Key = append(n.Items[i].Key, 0) })
		set(func(n *api.Node) { n.Items[i].Val = append(n.Items[i].Val, 0) })
		if len(n.Items[i].Val) > 0 {
			set(func(n *api.Node) { n.Items[i].Val[0] ^= 1 })
			set(func(n *api.Node) { n.Items[i].Val = n.Items[i].Val[1:] })
		}
	}
	for i := range n.Keys {
		set(func(n *api.Node) { n.Keys = slices.Delete(n.Keys, i, i+1) })
		set(func(n *api.Node) { n.Keys[i][len(n.Keys[i])-1] ^= 1 })
		set(func(n *api.Node) { n.Keys[i] = append(n.Keys[i], 0) })
	}
	for i := range n.Kids {
		set(func(n *api.Node) { n.Kids = slices.Delete(n.Kids, i, i+1) })
		set(func(n *api.Node) { n.Kids[i].Off ^= 1 })
		set(func(n *api.Node) { n.Kids[i].Off ^= 1 << 62 })
		set(func(n *api.Node) { n.Kids[i].Count ^= 1 })
		set(func(n *api.Node) { n.Kids[i].Count ^= 1 << 63 })
	}
	return out
}

// What stands in one's place is not held against what stands in another's.
func TestP91SameOfWhatChangedPlaces(t *testing.T) {
	same(t, leaf(item("a", "b")), leaf(item("b", "a")), false)
	same(t, leaf(item("ab", "c")), leaf(item("a", "bc")), false)
	same(t, leaf(item("a", "b"), item("c", "d")), leaf(item("a", "d"), item("c", "b")), false)
	same(t, leaf(item("a", "b"), item("c", "d")), leaf(item("c", "d"), item("a", "b")), false)
	same(t, api.Node{Kids: []api.Ref{{Off: 1, Count: 2}}}, api.Node{Kids: []api.Ref{{Off: 2, Count: 1}}}, false)
	same(t, api.Node{Kids: []api.Ref{{Off: 1}, {Off: 2}}}, api.Node{Kids: []api.Ref{{Off: 2}, {Off: 1}}}, false)
	same(t, api.Node{Keys: [][]byte{[]byte("a"), []byte("bc")}}, api.Node{Keys: [][]byte{[]byte("ab"), []byte("c")}}, false)
	same(t, api.Node{}, api.Node{Leaf: true}, false)
}
