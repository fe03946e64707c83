package reach

import (
	"bytes"
	"iter"
	"slices"

	"pandect/api"
	"pandect/place"
)

func isEmpty(r api.Ref) bool { return r == api.Ref{} }

// A span is the keys from from on and below to (to nothing: whatever they are).
type span struct{ from, to []byte }

func (s span) has(key []byte) bool { return bytes.Compare(key, s.from) >= 0 && s.isAbove(key) }

// isAbove tells whether s ends behind key.
func (s span) isAbove(key []byte) bool { return len(s.to) == 0 || bytes.Compare(key, s.to) < 0 }

// meets tells whether keys of s may lie at p, whose least one is least.
func (s span) meets(least []byte, p place.Place) bool { return s.isAbove(least) && p.IsAbove(s.from) }

// along goes over l from its front on, or from its end back.
func along[T any](l []T, back bool) iter.Seq2[int, T] {
	if back {
		return slices.Backward(l)
	}
	return slices.All(l)
}
