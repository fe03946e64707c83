package plan_test

import (
	"fmt"
	"slices"
	"strings"
	"testing"

	"pandect/api"
	"pandect/plan"
)

// may: it is answered so, and Events asks the same ahead of all else.
func may(t *testing.T, c api.Commit, want bool) {
	t.Helper()
	if is := plan.MayCommit(c); is != want {
		t.Errorf("%v: %v", c, is)
	}
	s := empty(c, 1)
	if !want {
		refused(t, c, s, api.ErrArg)
	} else if _, _, e := s.events(c); e == api.ErrArg {
		t.Errorf("%v: it may be, but Events tells ErrArg", c)
	}
}

func TestP171MayCommit(t *testing.T) {
	may(t, commit("", part("a", whatever, "t")), true)
	may(t, commit("id", part("a", none, "t"), part("b", 0, "t", "u")), true)
	may(t, commit("a", part("a", 7, "a")), true)
	may(t, greatest(), true)
	may(t, api.Commit{}, false)
	may(t, api.Commit{ID: "id"}, false)
	may(t, api.Commit{ID: "id", Parts: []api.Part{}}, false)
	may(t, commit("", api.Part{}), false)
}

// Each number of parts, each number of events in each of them.
func TestP171MayCommitCounts(t *testing.T) {
	for n := range 10 {
		counts := make([]int, n)
		for i := range counts {
			counts[i] = 1
		}
		may(t, shaped(counts...), n >= 1 && n <= mostParts)
	}
	for _, counts := range shapes(3) {
		may(t, shaped(counts...), true)
	}
	for _, counts := range [][]int{{1}, {5}, {1, 1}, {5, 1, 2}, {1, 5, 5, 5}, {5, 5, 5, 5}} {
		for i := range counts {
			for _, n := range []int{0, 1, 4, 5, 6, 7, 255, 256, 257, 65536} {
				wrong := slices.Clone(counts)
				wrong[i] = n
				may(t, shaped(wrong...), n >= 1 && n <= mostEvents)
			}
		}
	}
	may(t, shaped(make([]int, 256)...), false)
	may(t, shaped(make([]int, 257)...), false)
}

// texts tells of texts whether they are names: each length, each byte at each place.
func texts() map[string]bool {
	all := map[string]bool{}
	for n := range 40 {
		all[strings.Repeat("x", n)] = n >= 1 && n <= mostName
	}
	for _, n := range []int{1, 2, 5, mostName} {
		for i := range n {
			for b := range 256 {
				name := []byte(strings.Repeat("x", n))
				name[i] = byte(b)
				all[string(name)] = b >= 33 && b <= 126
			}
		}
	}
	all[strings.Repeat("x", 256)] = false
	all[strings.Repeat("x", 257)] = false
	all["\u00e9"] = false
	return all
}

func TestP171MayCommitIDs(t *testing.T) {
	for id, is := range texts() {
		may(t, commit(id, part("a", whatever, "t")), is || id == "")
		may(t, commit(id), false)
	}
}

func TestP171MayCommitStreams(t *testing.T) {
	for name, is := range texts() {
		may(t, commit("", part(name, whatever, "t")), is)
		may(t, commit("", part("one", whatever, "t"), part(name, whatever, "t"), part("two", whatever, "t")), is)
		may(t, commit("", part("one", whatever, "t"), part("two", whatever, "t"), part("six", whatever, "t"), part(name, whatever, "t")), is)
	}
}

func TestP171MayCommitTypes(t *testing.T) {
	for name, is := range texts() {
		may(t, commit("", part("a", whatever, name)), is)
		may(t, commit("", part("a", whatever, name, name)), is)
		may(t, commit("", part("a", whatever, "t", "t", name, "t", "t"), part("b", whatever, "t")), is)
		may(t, commit("", part("a", whatever, "t"), part("b", whatever, "t", "t", "t", "t", name)), is)
	}
}

// Each two parts of one stream, whatever else is unlike; names that are near one
// another are unlike.
func TestP171MayCommitUnlikeStreams(t *testing.T) {
	for n := 2; n <= mostParts; n++ {
		for i := range n {
			for j := range n {
				c := shaped([]int{1, 2, 3, 4}[:n]...)
				c.Parts[i].Expect = 3
				c.Parts[i].Stream = c.Parts[j].Stream
				may(t, c, i == j)
			}
		}
	}
	near := []string{"a", "A", "aa", "a!", "b", "!a", "a~", strings.Repeat("a", mostName), strings.Repeat("a", mostName-1), strings.Repeat("a", mostName-1) + "b"}
	for i, a := range near {
		for j, b := range near {
			may(t, commit(a, part(a, whatever, "t"), part(b, whatever, "t")), i != j)
			may(t, commit("", part(a, whatever, b), part("c", whatever, a), part(b, none, a)), i != j)
		}
	}
}

func TestP171MayCommitExpect(t *testing.T) {
	for _, n := range edges() {
		for i := range mostParts {
			c := shaped(1, 2, 3, 4)
			c.Parts[i].Expect = n
			may(t, c, n >= none)
		}
		may(t, commit("", part("a", n, "t")), n >= none)
	}
}

// Each length of data, in each place.
func TestP171MayCommitData(t *testing.T) {
	for n := range 300 {
		c := commit("", part("a", whatever, "t"))
		c.Parts[0].Events[0].Data = bytesOf(n)
		may(t, c, n <= mostData)
	}
	for i := range mostParts {
		for j := range mostEvents {
			for _, n := range []int{0, 1, 99, 100, 101, 102, 255, 256, 257, 65536} {
				c := greatest()
				c.Parts[i].Events[j].Data = bytesOf(n)
				may(t, c, n <= mostData)
			}
		}
	}
}

// One fault in the greatest of all is a fault, wherever it is.
func TestP171MayCommitOneFault(t *testing.T) {
	faults := []func(c *api.Commit, i, j int){
		func(c *api.Commit, i, j int) { c.ID += "~" },
		func(c *api.Commit, i, j int) { c.ID = " " },
		func(c *api.Commit, i, j int) { c.Parts = append(c.Parts, part("e", whatever, "t")) },
		func(c *api.Commit, i, j int) { c.Parts[i].Stream += "~" },
		func(c *api.Commit, i, j int) { c.Parts[i].Stream = "" },
		func(c *api.Commit, i, j int) { c.Parts[i].Stream = c.Parts[(i+1+j%3)%mostParts].Stream },
		func(c *api.Commit, i, j int) { c.Parts[i].Expect = -3 },
		func(c *api.Commit, i, j int) { c.Parts[i].Events = nil },
		func(c *api.Commit, i, j int) { c.Parts[i].Events = append(c.Parts[i].Events, api.Fresh{Type: "t"}) },
		func(c *api.Commit, i, j int) { c.Parts[i].Events[j] = api.Fresh{} },
		func(c *api.Commit, i, j int) { c.Parts[i].Events[j].Type += "~" },
		func(c *api.Commit, i, j int) { c.Parts[i].Events[j].Type = "a\x00" },
		func(c *api.Commit, i, j int) { c.Parts[i].Events[j].Data = bytesOf(101) },
	}
	for n, fault := range faults {
		for i := range mostParts {
			for j := range mostEvents {
				c := greatest()
				fault(&c, i, j)
				t.Run(fmt.Sprint(n, i, j), func(t *testing.T) { may(t, c, false) })
			}
		}
	}
}
