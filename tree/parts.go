package tree

import (
	"cmp"

	"pandect/api"
)

// A finding is what was seen of a part of a tree: how deep its leaves lie (0: none
// was seen), and what is wrong.
type finding struct {
	depth int
	no    api.Errno
}

// and puts together what was seen of two parts of one tree. That it is no right one
// goes ahead of what the disk says: behind an error of the disk one looks on.
func (a finding) and(b finding) finding {
	uneven := a.depth != b.depth && min(a.depth, b.depth) > 0
	if uneven || b.no == api.ErrForm {
		return finding{no: api.ErrForm}
	}
	return finding{max(a.depth, b.depth), cmp.Or(a.no, b.no)}
}
