package plan

import (
	"bytes"
	"slices"

	"pandect/api"
	"pandect/head"
	"pandect/key"
)

// laid is a commit whose events have their places in the file.
type laid struct {
	commit api.Commit
	heads  []api.Head
	events []api.Event
	offs   []int64
}

// isWhole tells whether there is of each just one.
func (l laid) isWhole() bool {
	return MayCommit(l.commit) && len(l.heads) == len(l.commit.Parts) &&
		len(l.events) == count(l.commit.Parts) && len(l.offs) == len(l.events)
}

func (l laid) inStream(i int) api.Change {
	return l.under(key.Stream(l.events[i].Stream, l.events[i].Version), i)
}

func (l laid) inSeq(i int) api.Change { return l.under(key.Seq(l.events[i].Seq), i) }

func (l laid) inType(i int) api.Change {
	return l.under(key.Type(l.events[i].Type, l.events[i].Seq), i)
}

func (l laid) under(k []byte, i int) api.Change {
	return api.Change{Key: k, Val: head.PutOff(l.offs[i])}
}

// head goes by the versions that the i-th part's events were given: they begin at 0
// where its stream was not there, whatever stands for its head.
func (l laid) head(i int) api.Change {
	from, to := count(l.commit.Parts[:i]), count(l.commit.Parts[:i+1])
	h := api.Head{Next: l.events[to-1].Version + 1}
	if l.events[from].Version != 0 {
		h.First = l.heads[i].First
	}
	return api.Change{Key: key.Head(l.commit.Parts[i].Stream), Val: head.PutHead(h)}
}

// ids tells the change of the ID, where there is one.
func (l laid) ids() []api.Change {
	if l.commit.ID == "" {
		return nil
	}
	return []api.Change{{Key: key.ID(l.commit.ID), Val: head.PutDone(doneOf(l.events))}}
}

func each(n int, put func(i int) api.Change) []api.Change {
	var l []api.Change
	for i := range n {
		l = append(l, put(i))
	}
	return l
}

// rising sorts l by what its keys are as bytes, as a tree does.
func rising(l []api.Change) []api.Change {
	slices.SortFunc(l, compareKeys)
	return l
}

func compareKeys(a, b api.Change) int { return bytes.Compare(a.Key, b.Key) }
