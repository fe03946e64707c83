package node

import "pandect/api"

// A reader goes over a node's bytes, part by part from their front on: each of
// its takes tells whether that part is there.
type reader struct {
	b       []byte
	at      int
	node    api.Node
	takeOne func() bool // of what is in the node: as its letter says
}

func (r *reader) takeLetter() bool {
	letter, is := r.next(1)
	if !is {
		return false
	}
	switch letter[0] {
	case leafLetter:
		r.node.Leaf, r.takeOne = true, r.takeItem
	case innerLetter:
		r.takeOne = r.takeKid
	default:
		return false
	}
	return true
}

func (r *reader) takeEach() bool {
	many, is := r.size()
	for range many {
		is = is && r.takeOne()
	}
	return is
}

func (r *reader) takeItem() bool {
	var item api.Item
	is := r.text(&item.Key) && r.text(&item.Val)
	r.node.Items = append(r.node.Items, item)
	return is
}

func (r *reader) takeKid() bool {
	var key []byte
	var off, count uint64
	is := r.text(&key) && r.number(&off) && r.number(&count)
	r.node.Keys = append(r.node.Keys, key)
	r.node.Kids = append(r.node.Kids, api.Ref{Off: int64(off), Count: count})
	return is
}

func (r *reader) isAtEnd() bool { return r.at == len(r.b) }

// mayBe asks at the end for what no part is asked for.
func (r *reader) mayBe() bool { return May(r.node) }

func (r *reader) text(to *[]byte) bool {
	size, is := r.size()
	if !is {
		return false
	}
	text, is := r.next(size)
	*to = append([]byte(nil), text...)
	return is
}

func (r *reader) number(to *uint64) bool {
	b, is := r.next(numberBytes)
	*to = 0
	for _, c := range b {
		*to = *to<<8 | uint64(c)
	}
	return is
}

func (r *reader) size() (int, bool) {
	b, is := r.next(sizeBytes)
	if !is {
		return 0, false
	}
	return int(b[0]), true
}

// next tells the next n bytes, no: there are not so many. It goes by the length
// of b: what lies in its spare room is not there.
func (r *reader) next(n int) ([]byte, bool) {
	if n > len(r.b)-r.at {
		return nil, false
	}
	from := r.at
	r.at += n
	return r.b[from:r.at], true
}
