package root_test

import (
	"fmt"

	"pandect/api"
	"pandect/root"
)

// README.md has this run.
func Example() {
	r := api.Root{Gen: 7, Next: 258}
	r.T[api.BySeq] = api.Ref{Off: 256, Count: 4}
	b := root.Put(r)
	fmt.Println(len(b), b[:8])
	r, e := root.Take(8, b)
	fmt.Println(r.Gen, r.Next, r.T[api.BySeq], e)
	_, e = root.Take(8, b[1:])
	fmt.Println(e)
	r.T[api.ByType] = api.Ref{Count: 1}
	fmt.Println(len(root.Put(r)))
	// Output:
	// 88 [0 0 0 0 0 0 1 2]
	// 8 258 {256 4} 0
	// 2
	// 0
}
