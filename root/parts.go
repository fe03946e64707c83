package root

import "pandect/api"

const (
	numberBytes = 8
	size        = numberBytes * (1 + 2*api.Trees) // Next, and of each tree two numbers
)

// along hands b on from part to part of a thing, as a row of method expressions
// of it says: each puts its part behind b, or takes it from the front of b, which
// is long enough, and leaves what stands behind it.
func along[T any](thing T, b []byte, parts ...func(T, []byte) []byte) []byte {
	for _, part := range parts {
		b = part(thing, b)
	}
	return b
}

type root api.Root

func (r root) mayBe() bool {
	for _, t := range r.T {
		if !tree(t).mayBe() {
			return false
		}
	}
	return r.Next >= 0
}

func (r root) putNext(b []byte) []byte { return putNumber(b, uint64(r.Next)) }

func (r root) putTrees(b []byte) []byte {
	for _, t := range r.T {
		b = along(tree(t), b, tree.putOff, tree.putCount)
	}
	return b
}

func (r *root) takeNext(b []byte) []byte {
	next, rest := takeNumber(b)
	r.Next = int64(next)
	return rest
}

func (r *root) takeTrees(b []byte) []byte {
	for i := range r.T {
		var t tree
		b = along(&t, b, (*tree).takeOff, (*tree).takeCount)
		r.T[i] = api.Ref(t)
	}
	return b
}

type tree api.Ref

// mayBe asks that an empty tree, and that one alone, begins nowhere.
func (t tree) mayBe() bool { return t.Off >= 0 && (t.Off == 0) == (t.Count == 0) }

func (t tree) putOff(b []byte) []byte   { return putNumber(b, uint64(t.Off)) }
func (t tree) putCount(b []byte) []byte { return putNumber(b, t.Count) }

func (t *tree) takeOff(b []byte) []byte {
	off, rest := takeNumber(b)
	t.Off = int64(off)
	return rest
}

func (t *tree) takeCount(b []byte) (rest []byte) {
	t.Count, rest = takeNumber(b)
	return rest
}

// putNumber lays the bytes of n, the highest first.
func putNumber(b []byte, n uint64) []byte {
	for i := range numberBytes {
		b = append(b, byte(n>>(8*(numberBytes-1-i))))
	}
	return b
}

func takeNumber(b []byte) (n uint64, rest []byte) {
	for _, c := range b[:numberBytes] {
		n = n<<8 | uint64(c)
	}
	return n, b[numberBytes:]
}
