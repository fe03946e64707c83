package plan

import "pandect/api"

// An attempt is a commit, and what it finds of its parts' streams.
type attempt struct {
	commit api.Commit
	heads  []api.Head
	there  []bool
	next   int64
}

func (a attempt) checkForm() api.Errno {
	n := len(a.commit.Parts)
	if !MayCommit(a.commit) || len(a.heads) != n || len(a.there) != n {
		return api.ErrArg
	}
	return api.OK
}

func (a attempt) checkStreams() api.Errno {
	for i, p := range a.commit.Parts {
		switch {
		case a.heads[i].Tomb:
			return api.ErrTomb
		case !isExpected(p.Expect, a.heads[i], a.there[i]):
			return api.ErrWrong
		}
	}
	return api.OK
}

// isExpected asks whether there is a last version ahead of telling it: one less than
// the least number would be the greatest.
func isExpected(expect int64, h api.Head, there bool) bool {
	switch expect {
	case api.Any:
		return true
	case api.New:
		return !there
	}
	return there && h.Next > 0 && expect == h.Next-1
}

func (a attempt) checkNumbers() api.Errno {
	if a.next > api.MaxSeq-int64(count(a.commit.Parts)) {
		return api.ErrOver
	}
	return api.OK
}

func (a attempt) events() []api.Event {
	var l []api.Event
	for i, p := range a.commit.Parts {
		version := a.firstVersion(i)
		for j, f := range p.Events {
			l = append(l, api.Event{
				Seq:     a.next + int64(len(l)),
				Stream:  p.Stream,
				Version: version + int64(j),
				Type:    f.Type,
				Data:    append([]byte(nil), f.Data...),
			})
		}
	}
	return l
}

func (a attempt) firstVersion(i int) int64 {
	if !a.there[i] {
		return 0
	}
	return a.heads[i].Next
}
