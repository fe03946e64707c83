package slot_test

import (
	"fmt"

	"pandect/slot"
)

// README.md has this run.
func Example() {
	a, _ := slot.Put(6, []byte("what held"))
	b, _ := slot.Put(7, []byte("what holds"))
	which, gen, body, e := slot.Better(a, b)
	fmt.Println(which, gen, string(body), e)
	b[20] ^= 1
	which, gen, body, e = slot.Better(a, b)
	fmt.Println(which, gen, string(body), e)
	// Output:
	// 1 7 what holds 0
	// 0 6 what held 0
}
