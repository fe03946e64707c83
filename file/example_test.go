package file_test

import (
	"fmt"

	"pandect/disk"
	"pandect/file"
)

// README.md has this run.
func Example() {
	d := disk.New(1 << 20)
	f, _ := file.Create(d, "log")
	at, _ := f.Append(7, []byte("what happened"))
	f.Hold(1, []byte("what holds"))
	f.Sync()
	d.SyncDir()
	f.Append(7, []byte("and more"))
	d.Crash(nil)
	f, _ = file.Open(d, "log")
	kind, body, e := f.Read(at)
	fmt.Println(at, kind, string(body), e)
	gen, body, e := f.Held()
	fmt.Println(gen, string(body), e, f.End())
	// Output:
	// 256 7 what happened 0
	// 1 what holds 0 278
}
