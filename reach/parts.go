package reach

import (
	"iter"
	"slices"
)

// along goes over l from its front on, or from its end back.
func along[T any](l []T, back bool) iter.Seq2[int, T] {
	if back {
		return slices.Backward(l)
	}
	return slices.All(l)
}
