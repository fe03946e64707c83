package batch

import (
	"pandect/api"
	"pandect/node"
	"pandect/place"
)

// opened tells what is in p. What lies nowhere, fresh or empty, has but its row.
func (u *update) opened(p part) (row, api.Errno) {
	if place.IsEmpty(p.ref) {
		return p.row, api.OK
	}
	n, e := p.at.Kept(u.f, p.ref)
	if e != api.OK {
		return row{}, e
	}
	if !u.isEven(n.Leaf, p.at.Deep()) {
		return row{}, api.ErrForm
	}
	r := row{items: n.Items}
	for i, at := range p.at.Kids(n) {
		r.kids = append(r.kids, part{key: n.Keys[i], ref: n.Kids[i], at: at})
	}
	return r, api.OK
}

// isEven tells whether a leaf, or an inner node, may lie so deep: as soon as a leaf
// was read, just the leaves do. So nothing else is ever joined with them.
func (u *update) isEven(isLeaf bool, deep int) bool {
	if u.leaves == 0 && isLeaf {
		u.leaves = deep
	}
	return isLeaf == (deep == u.leaves)
}

// laid lays p behind all that is fresh under it, and tells where it lies.
func (u *update) laid(p part) (api.Ref, api.Errno) {
	if !p.isFresh() {
		return p.ref, api.OK
	}
	n := api.Node{Leaf: len(p.items) > 0, Items: p.items}
	for _, kid := range p.kids {
		r, e := u.laid(kid)
		if e != api.OK {
			return api.Ref{}, e
		}
		n.Keys, n.Kids = append(n.Keys, kid.key), append(n.Kids, r)
	}
	return u.lay(n)
}

// lay: only where the nodes that were read tell of more items than there may be, a
// new one may not be.
func (u *update) lay(n api.Node) (api.Ref, api.Errno) {
	if !node.May(n) {
		return api.Ref{}, api.ErrForm
	}
	at, e := u.f.Append(place.NodeKind, node.Put(n))
	if e != api.OK {
		return api.Ref{}, e
	}
	return api.Ref{Off: at, Count: node.Count(n)}, api.OK
}
