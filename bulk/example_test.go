package bulk_test

import (
	"fmt"

	"pandect/api"
	"pandect/bulk"
	"pandect/disk"
	"pandect/file"
	"pandect/tree"
)

// README.md has this run.
func Example() {
	f, _ := file.Create(disk.New(1<<20), "log")
	b := bulk.New(f)
	fmt.Println(b.Put(api.Item{Key: []byte("b"), Val: []byte("1")}))
	fmt.Println(b.Put(api.Item{Key: []byte("a"), Val: []byte("2")}))
	fmt.Println(b.Put(api.Item{Key: []byte("d"), Val: []byte("3")}))
	r, e := b.Done()
	fmt.Println(r, e)
	val, ok, e := tree.Get(f, r, []byte("d"))
	fmt.Println(string(val), ok, e)
	fmt.Println(b.Put(api.Item{Key: []byte("e")}))
	r, e = bulk.New(f).Done()
	fmt.Println(r, e)
	// Output:
	// 0
	// 1
	// 0
	// {256 2} 0
	// 3 true 0
	// 1
	// {0 0} 0
}
