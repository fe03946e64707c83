package rank_test

import (
	"fmt"

	"pandect/api"
	"pandect/batch"
	"pandect/disk"
	"pandect/file"
	"pandect/rank"
)

// README.md has this run.
func Example() {
	f, _ := file.Create(disk.New(1<<20), "log")
	var l []api.Change
	for _, key := range []string{"a", "b", "c", "d", "e"} {
		l = append(l, api.Change{Key: []byte(key), Val: []byte("1")})
	}
	r, _ := batch.Update(f, api.Ref{}, l)
	show := func(i api.Item, ok bool, e api.Errno) { fmt.Printf("%q %v %d\n", i.Key, ok, e) }
	fmt.Println(rank.Below(f, r, []byte("d")))
	show(rank.At(f, r, 3))
	show(rank.At(f, r, 5))
	fmt.Println(rank.Between(f, r, []byte("b"), []byte("d")))
	fmt.Println(rank.Between(f, r, []byte("b"), nil))
	fmt.Println(rank.Below(f, api.Ref{}, []byte("d")))
	fmt.Println(rank.Below(f, api.Ref{Off: 5, Count: 1}, nil))
	// Output:
	// 3 0
	// "d" true 0
	// "" false 0
	// 2 0
	// 4 0
	// 0 0
	// 0 2
}
