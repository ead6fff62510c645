package hist

import (
	"cmp"
	"slices"
	"sort"

	"varve/api"
)

// transaction is what a worker did from a CBegin on.
type transaction struct {
	at     int        // the place of its CBegin
	begun  int        // the moment when that was begun
	calls  []int      // the places of the calls that rows are to answer
	end    int        // the place of its CCommit that was answered OK; 0, where no CCommit may be: there is none
	doubts []api.Done // what rows that do not answer so do not explain
}

// transactions are those of a history whose replies may be: the committed ones, in the order of their CCommits, and all others, in that of their CBegins.
func transactions(l []api.Done) (committed, others []*transaction) {
	var all []*transaction
	var open [api.MaxWorkers]*transaction
	for i, d := range l {
		t := open[d.W]
		must(mayBe(d.Call, d.Reply, t != nil), i, api.ErrHistRead)
		switch kind, code := d.Call.Kind, d.Reply.Code; {
		case kind == api.CBegin && code == api.OK:
			t = &transaction{at: i, begun: d.Begun}
			open[d.W] = t
			all = append(all, t)
		case t == nil || saysNothing(code):
		case kind == api.CAbort || aborts(code):
			open[d.W] = nil
		case kind == api.CCommit:
			open[d.W] = nil
			t.end = i
			committed = append(committed, t)
		default: // what is refused for what it is, too: a model refuses it, whatever its rows
			t.calls = append(t.calls, i)
		}
	}
	return committed, slices.DeleteFunc(all, func(t *transaction) bool { return t.end > 0 })
}

// past is which timestamps were answered by when: marks by rising moments, the first one at 0, each with the greatest timestamp up to then.
type past []mark

type mark struct {
	moment int
	time   int64
}

// by is the greatest timestamp that was answered at a moment or ahead of it.
func (p past) by(moment int) int64 {
	return p[sort.Search(len(p), func(i int) bool { return p[i].moment > moment })-1].time
}

func (p past) and(moment int, time int64) past {
	return append(p, mark{moment: moment, time: max(time, p[len(p)-1].time)})
}

// mustBeInTime holds the timestamps of committed transactions against the greatest one of the rows, and against one another.
func mustBeInTime(l []api.Done, committed []*transaction, rows int64) past {
	p := past{{time: rows}}
	seen := map[int64]int{}
	for _, t := range committed {
		d := l[t.end]
		_, again := seen[d.Reply.Time]
		must(d.Reply.Time > p.by(t.begun) && d.Reply.Time < api.MaxTime && !again, t.end, api.ErrHistOrder)
		seen[d.Reply.Time] = t.end
		p = p.and(d.Ended, d.Reply.Time)
	}
	return p
}

func sortByTimes(l []api.Done, committed []*transaction) {
	slices.SortFunc(committed, func(s, t *transaction) int { return cmp.Compare(l[s.end].Reply.Time, l[t.end].Reply.Time) })
}
