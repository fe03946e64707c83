package node_test

import (
	"testing"

	"pandect/api"
	"pandect/node"
)

func least(t *testing.T, n api.Node, want string) {
	t.Helper()
	if b := node.Least(n); string(b) != want {
		t.Errorf("Least of %v: %q, not %q", n, b, want)
	}
}

func count(t *testing.T, n api.Node, want uint64) {
	t.Helper()
	if c := node.Count(n); c != want {
		t.Errorf("Count of %v: %d, not %d", n, c, want)
	}
}

func TestP91Least(t *testing.T) {
	for many := 1; many <= fan; many++ {
		for _, size := range []int{1, 2, mostKey} {
			rising := keys(many, size)
			least(t, leafOf(rising...), rising[0])
			least(t, innerOf(rising...), rising[0])
		}
	}
	for c := range 255 {
		one := string([]byte{byte(c)})
		least(t, leafOf(one), one)
		least(t, leafOf(one, "\xff"), one)
		least(t, innerOf(one, "\xff"), one)
	}
}

func TestP91LeastOfNothing(t *testing.T) {
	for _, n := range []api.Node{{}, {Leaf: true}, {Items: []api.Item{}, Keys: [][]byte{}}, {Leaf: true, Items: []api.Item{}, Keys: [][]byte{}}} {
		if b := node.Least(n); len(b) != 0 {
			t.Errorf("%v: %q", n, b)
		}
	}
}

func TestP91CountOfLeaves(t *testing.T) {
	for many := range fan + 1 {
		count(t, leafOf(keys(many, 1)...), uint64(many))
	}
	count(t, longestLeaf(), fan)
}

// All Kids' Counts, not how many Kids there are.
func TestP91CountOfInnerNodes(t *testing.T) {
	count(t, api.Node{}, 0)
	for many := 2; many <= fan; many++ {
		for _, of := range counts() {
			n := innerOf(keys(many, 1)...)
			for i := range n.Kids {
				n.Kids[i].Count = of
			}
			count(t, n, uint64(many)*of)
			for i := range n.Kids {
				n.Kids[i].Count = mostUnder
				count(t, n, uint64(many-1)*of+mostUnder)
				n.Kids[i].Count = of
			}
		}
	}
	count(t, innerOf("a", "b", "c"), 4+5+6)
	count(t, with(longestInner(), func(n *api.Node) {
		for i := range n.Kids {
			n.Kids[i].Count = mostUnder
		}
	}), 1<<43)
}
