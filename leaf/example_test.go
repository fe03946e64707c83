package leaf_test

import (
	"fmt"

	"pandect/api"
	"pandect/leaf"
)

// README.md has this run.
func Example() {
	items := []api.Item{{Key: []byte("b"), Val: []byte("1")}, {Key: []byte("d"), Val: []byte("2")}}
	l := []api.Change{{Key: []byte("a"), Val: []byte("3")}, {Key: []byte("b"), Out: true}}
	fmt.Println(leaf.Rising(l))
	for _, i := range leaf.Apply(items, l) {
		fmt.Println(string(i.Key), string(i.Val))
	}
	fmt.Println(leaf.Find(items, []byte("c")))
	fmt.Println(leaf.Groups(9))
	// Output:
	// true
	// a 3
	// d 2
	// 1 false
	// [5 4]
}
