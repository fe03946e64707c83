// Package place tells where in a tree a node lies, and reads what lies there. It
// serves the layers that go down a tree: no chapter is its own.
package place

import (
	"bytes"

	"pandect/api"
	"pandect/file"
	"pandect/node"
)

// NodeKind is what kind of record a node is.
const NodeKind = 2

const (
	top = 1 // how deep a root lies

	// mostDeep is how deep a node of a right tree lies at most: under a root with
	// deeper ones there would be 2 * Least^mostDeep items at least, and no node
	// tells of more than Fan << 40. It bounds the recursion where the nodes of what
	// is no right tree lead down and down.
	mostDeep = 22
)

// A Place is where in a tree a node lies.
type Place struct {
	deep  int
	least []byte // what its least key has to be
	bound []byte // what all its keys have to be below (none: whatever they are)
}

// IsEmpty tells whether r is a tree that has nothing, and lies nowhere.
func IsEmpty(r api.Ref) bool { return r == api.Ref{} }

// Root tells the place of a root.
func Root() Place { return Place{deep: top} }

// Deep tells how deep p lies: a root 1.
func (p Place) Deep() int { return p.deep }

// Read tells the node that r says, which lies at p.
func (p Place) Read(f *file.File, r api.Ref) (api.Node, api.Errno) {
	if p.deep > mostDeep {
		return api.Node{}, api.ErrForm
	}
	kind, body, e := f.Read(r.Off)
	if e != api.OK {
		return api.Node{}, e
	}
	n, e := node.Take(body)
	if e != api.OK || kind != NodeKind || node.Count(n) != r.Count {
		return api.Node{}, api.ErrForm
	}
	return n, api.OK
}

// Kept tells the node that r says, which lies at p and has to keep to it.
func (p Place) Kept(f *file.File, r api.Ref) (api.Node, api.Errno) {
	n, e := p.Read(f, r)
	if e == api.OK && !p.mayHave(n) {
		return api.Node{}, api.ErrForm
	}
	return n, e
}

// mayHave tells whether n keeps to the place. Of a root nothing is asked beyond
// that it is a node.
func (p Place) mayHave(n api.Node) bool {
	keys := Keys(n)
	return p.deep == top || len(keys) >= api.Least && bytes.Equal(keys[0], p.least) && p.IsAbove(keys[len(keys)-1])
}

// IsAbove tells whether key is below what all keys at p have to be below.
func (p Place) IsAbove(key []byte) bool {
	return len(p.bound) == 0 || bytes.Compare(key, p.bound) < 0
}

// Kids tells the places of the kids of a node n that lies at p. Behind the last
// one's keys stand those that are behind the node's own.
func (p Place) Kids(n api.Node) []Place {
	var kids []Place
	for i, key := range n.Keys {
		bound := p.bound
		if i+1 < len(n.Keys) {
			bound = n.Keys[i+1]
		}
		kids = append(kids, Place{p.deep + 1, key, bound})
	}
	return kids
}

// Keys tells the keys of n, of a leaf those of its items.
func Keys(n api.Node) [][]byte {
	if !n.Leaf {
		return n.Keys
	}
	keys := make([][]byte, 0, api.Fan)
	for _, i := range n.Items {
		keys = append(keys, i.Key)
	}
	return keys
}
