package bulk

import (
	"bytes"
	"slices"

	"pandect/api"
	"pandect/node"
	"pandect/place"
)

// enough is how many there are in a row where a full node of them leaves enough for
// another one.
const enough = api.Fan + api.Least

// A writer lays a record, and tells where it begins.
type writer func(kind byte, body []byte) (int64, api.Errno)

// A row has of all that stands equally high in the tree what is in no node yet: items,
// or kids and their least keys. What is in one goes into the row above.
type row struct {
	items []api.Item
	keys  [][]byte
	kids  []api.Ref
	cut   func(n int) api.Node // takes the first n out, as a node
	write writer
	above *row // none: no node was laid yet
}

// rowOfItems tells an empty lowest row, of which leaves are made.
func rowOfItems(write writer) *row {
	r := &row{write: write}
	r.cut = r.cutItems
	return r
}

// rowOfKids tells an empty row above another one, of which inner nodes are made.
func rowOfKids(write writer) *row {
	r := &row{write: write}
	r.cut = r.cutKids
	return r
}

func (r *row) size() int { return len(r.items) + len(r.kids) }

// mayTake tells whether i may come next: whether it might stand behind the last one
// in a leaf. That one is still in the row, as no row is left without enough for a node.
func (r *row) mayTake(i api.Item) bool {
	last := r.items[max(0, len(r.items)-1):]
	return node.May(api.Node{Leaf: true, Items: slices.Concat(last, []api.Item{i})})
}

func (r *row) take(i api.Item) api.Errno {
	r.items = append(r.items, api.Item{Key: bytes.Clone(i.Key), Val: bytes.Clone(i.Val)})
	return r.eased()
}

func (r *row) takeKid(key []byte, kid api.Ref) api.Errno {
	r.keys, r.kids = append(r.keys, key), append(r.kids, kid)
	return r.eased()
}

// eased lays a full node as soon as there is enough.
func (r *row) eased() api.Errno {
	if r.size() < enough {
		return api.OK
	}
	return r.lay(api.Fan)
}

// closed lays all that is left, here and above, and tells the root.
func (r *row) closed() (api.Ref, api.Errno) {
	if r == nil {
		return api.Ref{}, api.OK // nothing was laid
	}
	if r.above == nil && len(r.kids) == 1 {
		return r.kids[0], api.OK
	}
	for r.size() > 0 {
		if e := r.lay(share(r.size())); e != api.OK {
			return api.Ref{}, e
		}
	}
	return r.above.closed()
}

// share tells how many of n that are left go into the next node: where they are too
// many for one, half of them, so that it is not small, nor is the one behind it.
func share(n int) int {
	if n <= api.Fan {
		return n
	}
	return n - n/2
}

// lay lays a node of the first n.
func (r *row) lay(n int) api.Errno {
	made := r.cut(n)
	at, e := r.write(place.NodeKind, node.Put(made))
	if e != api.OK {
		return e
	}
	if r.above == nil {
		r.above = rowOfKids(r.write)
	}
	return r.above.takeKid(node.Least(made), api.Ref{Off: at, Count: node.Count(made)})
}

func (r *row) cutItems(n int) api.Node {
	items := r.items[:n]
	r.items = r.items[n:]
	return api.Node{Leaf: true, Items: items}
}

func (r *row) cutKids(n int) api.Node {
	keys, kids := r.keys[:n], r.kids[:n]
	r.keys, r.kids = r.keys[n:], r.kids[n:]
	return api.Node{Keys: keys, Kids: kids}
}
