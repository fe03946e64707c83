package key_test

import (
	"bytes"
	"fmt"

	"pandect/key"
)

// README.md has this run.
func Example() {
	first, last := key.Stream("a", 1), key.Stream("a", 256)
	fmt.Printf("%q %d\n", first, bytes.Compare(first, last))
	fmt.Println(key.TakeStream(last))
	fmt.Printf("%q\n", key.After([]byte("a\x00")))
	// Output:
	// "a\x00\x00\x00\x00\x00\x00\x00\x00\x01" -1
	// a 256 true
	// "a\x01"
}
