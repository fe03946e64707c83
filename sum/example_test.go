package sum_test

import (
	"fmt"

	"pandect/sum"
)

// README.md has this run.
func Example() {
	b := []byte("123456789")
	was := sum.Sum(b)
	b[4] ^= 1
	same := sum.Sum(b) == was
	fmt.Printf("%#x %t", was, same)
	// Output: 0xe3069283 false
}
