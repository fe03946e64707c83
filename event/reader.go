package event

import "pandect/api"

// A reader goes over an event's bytes, part by part from their front on: each of
// its takes tells whether that part is there.
type reader struct {
	b     []byte
	at    int
	event api.Event
}

func (r *reader) takeSeq() bool     { return r.number(&r.event.Seq) }
func (r *reader) takeVersion() bool { return r.number(&r.event.Version) }
func (r *reader) takeStream() bool  { return r.name(&r.event.Stream) }
func (r *reader) takeType() bool    { return r.name(&r.event.Type) }

// takeData lets no data stay nil, as it stands in an event without any.
func (r *reader) takeData() bool {
	text, is := r.text()
	r.event.Data = append([]byte(nil), text...)
	return is
}

func (r *reader) isAtEnd() bool { return r.at == len(r.b) }

// mayBe asks at the end for what no part is asked for.
func (r *reader) mayBe() bool { return May(r.event) }

func (r *reader) number(to *int64) bool {
	b, is := r.next(numberBytes)
	n := uint64(0)
	for _, c := range b {
		n = n<<8 | uint64(c)
	}
	*to = int64(n)
	return is
}

func (r *reader) name(to *string) bool {
	text, is := r.text()
	*to = string(text)
	return is
}

// text tells the next text, a piece of b.
func (r *reader) text() ([]byte, bool) {
	size, is := r.next(sizeBytes)
	if !is {
		return nil, false
	}
	return r.next(int(size[0]))
}

// next tells the next n bytes, no: there are not so many. It goes by the length
// of b: what lies in its spare room is not there.
func (r *reader) next(n int) ([]byte, bool) {
	if n > len(r.b)-r.at {
		return nil, false
	}
	from := r.at
	r.at += n
	return r.b[from:r.at], true
}
