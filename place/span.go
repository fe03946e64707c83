package place

import "bytes"

// A Span is the keys from from on and below to.
type Span struct {
	from, to []byte
	isOpen   bool // there is no to
}

// Between tells the keys from from on and below to (nothing: no bound).
func Between(from, to []byte) Span { return Span{from, to, len(to) == 0} }

// Below tells the keys below to: below nothing there are none.
func Below(to []byte) Span { return Span{to: to} }

// Has tells whether key is one of s.
func (s Span) Has(key []byte) bool { return bytes.Compare(key, s.from) >= 0 && s.isAbove(key) }

// Meets tells whether keys of s may lie at p.
func (s Span) Meets(p Place) bool { return s.isAbove(p.least) && p.IsAbove(s.from) }

// Holds tells whether all keys that may lie at p are of s.
func (s Span) Holds(p Place) bool {
	return bytes.Compare(p.least, s.from) >= 0 && (s.isOpen || !p.IsAbove(s.to))
}

// isAbove tells whether s ends behind key.
func (s Span) isAbove(key []byte) bool { return s.isOpen || bytes.Compare(key, s.to) < 0 }
