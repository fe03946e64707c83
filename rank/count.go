package rank

import (
	"pandect/api"
	"pandect/file"
	"pandect/place"
)

// counted tells how many keys of the tree r are of s.
func counted(f *file.File, r api.Ref, s place.Span) (uint64, api.Errno) {
	if place.IsEmpty(r) {
		return 0, api.OK
	}
	c := count{f: f, span: s}
	c.over(r, place.Root())
	if c.no != api.OK {
		return 0, c.no
	}
	return c.keys, api.OK
}

// A count is one of a tree's keys: which are looked for, and what was come by.
type count struct {
	f    *file.File
	span place.Span
	keys uint64
	no   api.Errno // what is wrong
}

// over goes on over r, which has to keep to its place. Of a kid whose keys are all of
// the span its Count tells how many, so that only the two kids are come by in which the
// span begins and ends. That it is no right tree goes ahead of what the disk says:
// behind the disk's error one looks on.
func (c *count) over(r api.Ref, p place.Place) {
	if c.no == api.ErrForm {
		return
	}
	n, e := p.Kept(c.f, r)
	if e != api.OK {
		c.no = e
		return
	}
	for _, i := range n.Items {
		if c.span.Has(i.Key) {
			c.keys++
		}
	}
	for i, kid := range p.Kids(n) {
		switch {
		case c.span.Holds(kid):
			c.keys += n.Kids[i].Count
		case c.span.Meets(kid):
			c.over(n.Kids[i], kid)
		}
	}
}
