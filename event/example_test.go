package event_test

import (
	"fmt"

	"pandect/api"
	"pandect/event"
)

// README.md has this run.
func Example() {
	b := event.Put(api.Event{Seq: 1, Stream: "s", Version: 2, Type: "t"})
	fmt.Println(len(b))
	e, no := event.Take(b)
	fmt.Println(e.Seq, e.Stream, e.Version, e.Type, no)
	_, no = event.Take(b[1:])
	fmt.Println(no)
	fmt.Println(event.Same(e, api.Event{Seq: 1, Stream: "s", Version: 2, Type: "t", Data: []byte{}}))
	// Output:
	// 21
	// 1 s 2 t 0
	// 2
	// true
}
