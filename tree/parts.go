package tree

import (
	"bytes"
	"cmp"

	"pandect/api"
	"pandect/file"
	"pandect/node"
)

const (
	nodeKind = 2

	top = 1 // how deep a root lies

	// mostDeep is how deep a node of a right tree lies at most: under a root with
	// deeper ones there would be 2 * Least^mostDeep items at least, and no node
	// tells of more than Fan << 40. It bounds the recursion where the nodes of what
	// is no right tree lead down and down.
	mostDeep = 22
)

func isEmpty(r api.Ref) bool { return r == api.Ref{} }

// read tells the node that r says, which lies so deep.
func read(f *file.File, r api.Ref, deep int) (api.Node, api.Errno) {
	if deep > mostDeep {
		return api.Node{}, api.ErrForm
	}
	kind, body, e := f.Read(r.Off)
	if e != api.OK {
		return api.Node{}, e
	}
	n, e := node.Take(body)
	if e != api.OK || kind != nodeKind || node.Count(n) != r.Count {
		return api.Node{}, api.ErrForm
	}
	return n, api.OK
}

// keysOf tells the keys of n, of a leaf those of its items.
func keysOf(n api.Node) [][]byte {
	if !n.Leaf {
		return n.Keys
	}
	keys := make([][]byte, 0, api.Fan)
	for _, i := range n.Items {
		keys = append(keys, i.Key)
	}
	return keys
}

// A place is where in a tree a node lies.
type place struct {
	deep  int
	least []byte // what its least key has to be
	bound []byte // what all its keys have to be below (none: whatever they are)
}

// mayHave tells whether n keeps to the place. Of a root nothing is asked beyond
// that it is a node.
func (p place) mayHave(n api.Node) bool {
	keys := keysOf(n)
	return p.deep == top || len(keys) >= api.Least && bytes.Equal(keys[0], p.least) && p.isAbove(keys[len(keys)-1])
}

func (p place) isAbove(key []byte) bool {
	return len(p.bound) == 0 || bytes.Compare(key, p.bound) < 0
}

// ofKid tells the place of the i-th kid of a node that lies at p. Behind the last
// one's keys stand those that are behind the node's own.
func (p place) ofKid(keys [][]byte, i int) place {
	if i+1 < len(keys) {
		return place{p.deep + 1, keys[i], keys[i+1]}
	}
	return place{p.deep + 1, keys[i], p.bound}
}

// A finding is what was seen of a part of a tree: how deep its leaves lie (0: none
// was seen), and what is wrong.
type finding struct {
	depth int
	no    api.Errno
}

// and puts together what was seen of two parts of one tree. That it is no right one
// goes ahead of what the disk says: behind an error of the disk one looks on.
func (a finding) and(b finding) finding {
	uneven := a.depth != b.depth && min(a.depth, b.depth) > 0
	if uneven || b.no == api.ErrForm {
		return finding{no: api.ErrForm}
	}
	return finding{max(a.depth, b.depth), cmp.Or(a.no, b.no)}
}
