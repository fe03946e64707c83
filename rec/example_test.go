package rec_test

import (
	"fmt"

	"pandect/rec"
)

// README.md has this run.
func Example() {
	b, _ := rec.Put(7, []byte("what happened"))
	kind, body, n, e := rec.Take(append(b, "more"...))
	fmt.Println(kind, string(body), n, e)
	b[5] ^= 1
	_, _, _, e = rec.Take(b)
	fmt.Println(e)
	// Output:
	// 7 what happened 22 0
	// 2
}
