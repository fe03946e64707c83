package reach_test

import (
	"fmt"

	"pandect/api"
	"pandect/batch"
	"pandect/disk"
	"pandect/file"
	"pandect/reach"
)

// README.md has this run.
func Example() {
	f, _ := file.Create(disk.New(1<<20), "log")
	var l []api.Change
	for _, key := range []string{"a", "b", "c", "d", "e"} {
		l = append(l, api.Change{Key: []byte(key), Val: []byte("1")})
	}
	r, _ := batch.Update(f, api.Ref{}, l)
	show := func(items []api.Item, e api.Errno) {
		for _, i := range items {
			fmt.Print(string(i.Key), " ")
		}
		fmt.Println(e)
	}
	show(reach.List(f, r, []byte("b"), []byte("e"), 2, false))
	show(reach.List(f, r, []byte("b"), []byte("e"), 2, true))
	show(reach.List(f, r, []byte("d"), nil, 10, false))
	show(reach.List(f, r, []byte("d"), nil, -1, false))
	show(reach.List(f, api.Ref{}, nil, nil, 10, false))
	show(reach.List(f, api.Ref{Off: 5, Count: 1}, nil, nil, 10, false))
	// Output:
	// b c 0
	// d c 0
	// d e 0
	// 0
	// 0
	// 2
}
