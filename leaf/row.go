package leaf

import (
	"bytes"

	"pandect/api"
)

// A rise goes up from Key to Key of changes.
type rise struct{ last []byte }

// breaksAt tells whether c may not come next. An empty Key is above none, and each
// other one is above nothing, which stands ahead of the first.
func (r *rise) breaksAt(c api.Change) bool {
	rises := bytes.Compare(r.last, c.Key) < 0
	r.last = c.Key
	return !rises || len(c.Key) > api.MaxKey || len(c.Val) > mostVal(c)
}

func mostVal(c api.Change) int {
	if c.Out {
		return 0
	}
	return api.MaxVal
}

// A row of items is made out of one that is left, from the front on: each change
// goes through its steps in turn.
type row struct{ left, made []api.Item }

// keepBelow looks no farther than the first that is not below, so that all changes
// together go over the row but once.
func (r *row) keepBelow(c api.Change) {
	n := 0
	for n < len(r.left) && sought(c.Key).isAbove(r.left[n]) {
		n++
	}
	r.keep(n)
}

func (r *row) passOver(c api.Change) {
	if len(r.left) > 0 && sought(c.Key).isOf(r.left[0]) {
		r.left = r.left[1:]
	}
}

func (r *row) put(c api.Change) {
	if !c.Out {
		r.add(c.Key, c.Val)
	}
}

func (r *row) keep(n int) {
	for _, i := range r.left[:n] {
		r.add(i.Key, i.Val)
	}
	r.left = r.left[n:]
}

func (r *row) add(key, val []byte) {
	r.made = append(r.made, api.Item{Key: copied(key), Val: copied(val)})
}

// copied makes nil and an empty list one, as bytes.Clone does not.
func copied(b []byte) []byte { return append([]byte(nil), b...) }

// sought is a key that is looked for among items.
type sought []byte

func (s sought) isAbove(i api.Item) bool { return bytes.Compare(s, i.Key) > 0 }
func (s sought) isOf(i api.Item) bool    { return bytes.Equal(s, i.Key) }

// count asks each item, so that it is right of items in whatever order.
func count(items []api.Item, is func(api.Item) bool) (n int) {
	for _, i := range items {
		if is(i) {
			n++
		}
	}
	return n
}
