package batch_test

import (
	"fmt"

	"pandect/api"
	"pandect/batch"
	"pandect/disk"
	"pandect/file"
	"pandect/tree"
)

// README.md has this run.
func Example() {
	f, _ := file.Create(disk.New(1<<20), "log")
	first := []api.Change{{Key: []byte("b"), Val: []byte("1")}, {Key: []byte("d"), Val: []byte("2")}}
	was, e := batch.Update(f, api.Ref{}, first)
	fmt.Println(was, e)
	next := []api.Change{{Key: []byte("a"), Val: []byte("3")}, {Key: []byte("d"), Out: true}}
	is, e := batch.Update(f, was, next)
	fmt.Println(is, e)
	for _, r := range []api.Ref{was, is} {
		val, ok, e := tree.Get(f, r, []byte("d"))
		fmt.Println(string(val), ok, e)
	}
	_, e = batch.Update(f, is, []api.Change{{Key: []byte("b")}, {Key: []byte("a")}})
	fmt.Println(e)
	// Output:
	// {256 2} 0
	// {275 2} 0
	// 2 true 0
	//  false 0
	// 1
}
