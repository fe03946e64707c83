package plan

import (
	"slices"

	"pandect/api"
	"pandect/key"
)

// taken knows the streams of the parts that were taken so far.
type taken struct{ streams []string }

// refuses tells whether p may not be the next part.
func (t *taken) refuses(p api.Part) bool {
	if slices.Contains(t.streams, p.Stream) {
		return true
	}
	t.streams = append(t.streams, p.Stream)
	return !mayPart(p)
}

func mayPart(p api.Part) bool {
	return key.MayName(p.Stream) && p.Expect >= api.New && len(p.Events) >= 1 && len(p.Events) <= api.MaxEvents &&
		!slices.ContainsFunc(p.Events, mayNotBe)
}

func mayNotBe(f api.Fresh) bool { return !key.MayName(f.Type) || len(f.Data) > api.MaxData }

// count tells how many events there are in parts.
func count(parts []api.Part) (n int) {
	for _, p := range parts {
		n += len(p.Events)
	}
	return n
}

func doneOf(events []api.Event) api.Done {
	return api.Done{First: events[0].Seq, Count: len(events)}
}
