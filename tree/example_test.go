package tree_test

import (
	"fmt"

	"pandect/api"
	"pandect/disk"
	"pandect/file"
	"pandect/node"
	"pandect/tree"
)

// README.md has this run.
func Example() {
	f, _ := file.Create(disk.New(1<<20), "log")
	n := api.Node{Leaf: true, Items: []api.Item{{Key: []byte("b"), Val: []byte("1")}, {Key: []byte("d"), Val: []byte("2")}}}
	at, _ := f.Append(2, node.Put(n))
	r := api.Ref{Off: at, Count: 2}
	val, ok, e := tree.Get(f, r, []byte("d"))
	fmt.Println(string(val), ok, e)
	val, ok, e = tree.Get(f, r, []byte("c"))
	fmt.Println(len(val), ok, e)
	fmt.Println(tree.Check(f, r))
	fmt.Println(tree.Check(f, api.Ref{Off: at, Count: 3}))
	fmt.Println(tree.Check(f, api.Ref{}))
	// Output:
	// 2 true 0
	// 0 false 0
	// 1 0
	// 0 2
	// 0 0
}
