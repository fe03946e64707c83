package head_test

import (
	"fmt"

	"pandect/api"
	"pandect/head"
)

// README.md has this run.
func Example() {
	b := head.PutHead(api.Head{Next: 5, First: 3})
	fmt.Println(len(b))
	h, e := head.TakeHead(b)
	fmt.Println(h.Next, h.First, h.Tomb, e)
	_, e = head.TakeHead(b[1:])
	fmt.Println(e)
	fmt.Println(len(head.PutHead(api.Head{Next: 5, First: 6})))
	fmt.Println(head.PutOff(1))
	// Output:
	// 17
	// 5 3 false 0
	// 2
	// 0
	// [0 0 0 0 0 0 0 1]
}
