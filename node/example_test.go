package node_test

import (
	"fmt"

	"pandect/api"
	"pandect/node"
)

// README.md has this run.
func Example() {
	b := node.Put(api.Node{Leaf: true, Items: []api.Item{{Key: []byte("k"), Val: []byte("v")}}})
	fmt.Printf("%d %q\n", len(b), b)
	n, e := node.Take(b)
	fmt.Println(string(node.Least(n)), node.Count(n), e)
	_, e = node.Take(b[1:])
	fmt.Println(e)
	kids := []api.Ref{{Off: 256, Count: 4}, {Off: 300, Count: 5}}
	n = api.Node{Keys: [][]byte{[]byte("a"), []byte("c")}, Kids: kids}
	fmt.Println(node.May(n), string(node.Least(n)), node.Count(n), len(node.Put(n)))
	// Output:
	// 6 "L\x01\x01k\x01v"
	// k 1 0
	// 2
	// true a 9 38
}
