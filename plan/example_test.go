package plan_test

import (
	"fmt"

	"pandect/api"
	"pandect/plan"
)

// README.md has this run.
func Example() {
	c := api.Commit{ID: "once", Parts: []api.Part{
		{Stream: "b", Expect: 4, Events: []api.Fresh{{Type: "t"}, {Type: "u"}}},
		{Stream: "a", Expect: api.New, Events: []api.Fresh{{Type: "t"}}},
	}}
	heads, there := []api.Head{{Next: 5}, {}}, []bool{true, false}
	fmt.Println(plan.MayCommit(c))
	l, d, e := plan.Events(c, heads, there, 100)
	for _, event := range l {
		fmt.Println(event.Seq, event.Stream, event.Version, event.Type)
	}
	fmt.Println(d.First, d.Count, e)
	trees := plan.Puts(c, heads, l, []int64{256, 290, 324})
	for _, change := range trees[api.ByHead] {
		fmt.Println(string(change.Key))
	}
	fmt.Println(trees[api.BySeq][2].Val)
	there[1] = true
	_, _, e = plan.Events(c, heads, there, 100)
	fmt.Println(e)
	// Output:
	// true
	// 100 b 5 t
	// 101 b 6 u
	// 102 a 0 t
	// 100 3 0
	// ha
	// hb
	// ionce
	// [0 0 0 0 0 0 1 68]
	// 6
}
