package rec

import (
	"pandect/api"
	"pandect/sum"
)

// A reader goes over a record, part by part from its front on: each of its
// takes tells whether that part is there and may be.
type reader struct {
	b    []byte
	at   int
	size int
	kind byte
	body []byte // a piece of b
}

func (r *reader) takeSize() bool {
	n, is := r.number()
	if !is || n > api.MaxBody {
		return false
	}
	r.size = int(n)
	return true
}

func (r *reader) takeKind() bool {
	b, is := r.next(1)
	if is {
		r.kind = b[0]
	}
	return is
}

func (r *reader) takeBody() bool {
	b, is := r.next(r.size)
	r.body = b
	return is
}

func (r *reader) takeSum() bool {
	ahead := r.b[:r.at]
	n, is := r.number()
	return is && n == sum.Sum(ahead)
}

func (r *reader) number() (uint32, bool) {
	b, is := r.next(numberBytes)
	n := uint32(0)
	for _, c := range b {
		n = n<<8 | uint32(c)
	}
	return n, is
}

// next tells the next n bytes, no: there are not so many. It goes by the length
// of b: what lies in its spare room is not there.
func (r *reader) next(n int) ([]byte, bool) {
	if n > len(r.b)-r.at {
		return nil, false
	}
	from := r.at
	r.at += n
	return r.b[from:r.at], true
}
