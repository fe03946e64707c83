package disk_test

import (
	"fmt"

	"pandect/disk"
)

// README.md has this run.
func Example() {
	d := disk.New(1 << 20)
	d.Create("log")
	d.Write("log", 0, []byte("first"))
	d.Sync("log")
	d.SyncDir()
	d.Write("log", 5, []byte(", second"))
	d.Crash(nil)
	b, e := d.Read("log", 0, 5)
	n, _ := d.Size("log")
	fmt.Println(string(b), e, n)
	// Output: first 0 5
}
