package head

import "pandect/api"

// How many bytes the numbers have.
const (
	longBytes  = 8
	countBytes = 2
	flagBytes  = 1
)

// put lays the parts of a thing one behind the other, as a row of method
// expressions of it says. One that may not be has none.
func put[T any](thing T, mayBe func(T) bool, parts ...func(T, []byte) []byte) []byte {
	if !mayBe(thing) {
		return nil
	}
	var b []byte
	for _, part := range parts {
		b = part(thing, b)
	}
	return b
}

// take takes the parts of a thing from the front of b: each method expression of
// the row tells what stands behind its part, no: it is not there. At the end
// nothing is left over, and the thing may be, or it is none.
func take[T any](b []byte, mayBe func(T) bool, parts ...func(*T, []byte) ([]byte, bool)) (T, api.Errno) {
	var thing, none T
	for _, part := range parts {
		rest, is := part(&thing, b)
		if !is {
			return none, api.ErrForm
		}
		b = rest
	}
	if len(b) > 0 || !mayBe(thing) {
		return none, api.ErrForm
	}
	return thing, api.OK
}

// putNumber lays the low bytes of n, as many as size says, the highest first.
func putNumber(b []byte, n int64, size int) []byte {
	for i := range size {
		b = append(b, byte(n>>(8*(size-1-i))))
	}
	return b
}

func takeNumber(b []byte, size int) (n int64, rest []byte, is bool) {
	if len(b) < size {
		return 0, nil, false
	}
	for _, c := range b[:size] {
		n = n<<8 | int64(c)
	}
	return n, b[size:], true
}
