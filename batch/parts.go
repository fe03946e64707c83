package batch

import (
	"slices"

	"pandect/api"
	"pandect/leaf"
	"pandect/node"
	"pandect/place"
)

// mostParted is how many leaf.Groups parts at most.
const mostParted = 1 << 20

// A part is a node of the tree that is to be. Either it is fresh, and what is in it
// is its row, or it is as it was, and lies at ref (an empty tree: nowhere).
type part struct {
	key []byte // its least key; a root that is as it was has none
	ref api.Ref
	at  place.Place // where it lay in the tree that was
	row
}

func (p part) isFresh() bool { return p.size() > 0 }

// isSmall: what is as it was has enough in it.
func (p part) isSmall() bool { return p.isFresh() && p.size() < api.Least }

// isAs: what is fresh lies nowhere yet, and all that was has its place.
func (p part) isAs(was part) bool { return p.ref == was.ref }

// own tells how many of the changes l, from the front on, are of p's keys.
func (p part) own(l []api.Change) int {
	if n := slices.IndexFunc(l, p.isPassedBy); n >= 0 {
		return n
	}
	return len(l)
}

func (p part) isPassedBy(c api.Change) bool { return !p.at.IsAbove(c.Key) }

// A row is what is in a node, or in several that stand side by side: items, or kids.
type row struct {
	items []api.Item
	kids  []part
}

func (r row) size() int { return len(r.items) + len(r.kids) }

func (r row) isLike(was row) bool {
	items := node.Same(api.Node{Items: r.items}, api.Node{Items: was.items})
	return items && slices.EqualFunc(r.kids, was.kids, part.isAs)
}

func (r row) and(behind row) row {
	return row{slices.Concat(r.items, behind.items), slices.Concat(r.kids, behind.kids)}
}

// parted makes nodes of the row.
func (r row) parted() []part {
	take := r.takeItems
	if len(r.kids) > 0 {
		take = r.takeKids
	}
	var parts []part
	for _, n := range sizes(r.size()) {
		parts = append(parts, take(n))
	}
	return parts
}

func (r *row) takeItems(n int) part {
	items := r.items[:n]
	r.items = r.items[n:]
	return part{key: items[0].Key, row: row{items: items}}
}

func (r *row) takeKids(n int) part {
	kids := r.kids[:n]
	r.kids = r.kids[n:]
	return part{key: kids[0].key, row: row{kids: kids}}
}

// sizes tells how many go into each node of a row of n. What is more than can be
// parted goes ahead of the rest, into full ones.
func sizes(n int) []int {
	full := max(0, n-mostParted+api.Fan-1) / api.Fan
	return append(slices.Repeat([]int{api.Fan}, full), leaf.Groups(n-full*api.Fan)...)
}

// top tells the root over parts: nodes are put over several, and over a single kid
// there need be none.
func top(parts []part) part {
	for len(parts) > 1 {
		parts = row{kids: parts}.parted()
	}
	if len(parts) == 0 {
		return part{}
	}
	root := parts[0]
	for len(root.kids) == 1 {
		root = root.kids[0]
	}
	return root
}
