package hist

import (
	"maps"
	"slices"

	"varve/api"
	"varve/model"
)

func begin(m *model.Model) { m.Do(api.Call{Kind: api.CBegin, Mode: api.Optimistic}) }

func abort(m *model.Model) { m.Do(api.Call{Kind: api.CAbort}) }

// redo has a model begin a transaction and do its calls, up to the first one that it answers otherwise: which one that is, and what it answers.
func redo(m *model.Model, l []api.Done, t *transaction) (int, api.Reply, bool) {
	begin(m)
	for _, at := range t.calls {
		if r := m.Do(l[at].Call); !isSame(r, l[at].Reply) {
			return at, r, false
		}
	}
	return 0, api.Reply{}, true
}

// mustFollow has a model do what was committed, one transaction behind the other.
func mustFollow(m *model.Model, l []api.Done, committed []*transaction) []api.Commit {
	var list []api.Commit
	for _, t := range committed {
		at, _, same := redo(m, l, t)
		must(same, at, api.ErrHistRead)
		c := api.Commit{Time: l[t.end].Reply.Time, Writes: writes(m, l, t)}
		abort(m)
		m.Apply(c)
		list = append(list, c)
	}
	return list
}

// writes is what a transaction, which a model has open, comes to. A key that it has inserted first was not there ahead of it: taken away again, it is not gone.
func writes(m *model.Model, l []api.Done, t *transaction) []api.Write {
	firsts := map[string]int{} // by keys, the Kind of what was done to them first
	for _, at := range t.calls {
		if c := l[at].Call; c.Kind >= api.CInsert && l[at].Reply.Code == api.OK && firsts[c.Key] == 0 {
			firsts[c.Key] = c.Kind
		}
	}
	var list []api.Write
	for _, key := range slices.Sorted(maps.Keys(firsts)) {
		switch r := m.Do(api.Call{Kind: api.CGet, Key: key}); {
		case r.Found:
			list = append(list, api.Write{Key: key, Val: r.Val})
		case firsts[key] != api.CInsert:
			list = append(list, api.Write{Key: key, Gone: true})
		}
	}
	return list
}

// mustFitIn looks, for each transaction that was not committed, for rows ahead of, between or behind the commits that explain it, but for those ahead of commits that were answered by its begin.
func mustFitIn(m *model.Model, l []api.Done, others []*transaction, commits []api.Commit, p past) {
	fits := func(t *transaction) bool { return m.Time() >= p.by(t.begun) && t.fits(m, l) }
	others = slices.DeleteFunc(others, fits)
	for _, c := range commits {
		m.Apply(c)
		others = slices.DeleteFunc(others, fits)
	}
	if len(others) > 0 {
		panic(fault{at: others[0].at, code: api.ErrHistRead})
	}
}

// fits: do a model's rows explain it? What rows ahead have answered otherwise is asked first, as most rows are refused by that alone.
func (t *transaction) fits(m *model.Model, l []api.Done) bool {
	if slices.ContainsFunc(t.doubts, func(d api.Done) bool { return !isAnswered(m, d) }) {
		return false
	}
	at, r, same := redo(m, l, t)
	abort(m)
	if !same {
		t.doubts = append(t.doubts, doubt(l[at], r))
	}
	return same
}

// isAnswered: does a model answer one call just so, if nothing else was done?
func isAnswered(m *model.Model, d api.Done) bool {
	begin(m)
	r := m.Do(d.Call)
	abort(m)
	return isSame(r, d.Reply)
}

// doubt is what rows must answer, if they are to answer a call as it was, and not as a model did. It need not take in what its transaction has written: who asks for that is answered the same by all rows, and explained by none. Of a scan it is one key: that is asked sooner.
func doubt(d api.Done, r api.Reply) api.Done {
	if d.Call.Kind != api.CScan {
		return d
	}
	key := apart(d.Reply.Rows, r.Rows)
	one := api.Done{Call: api.Call{Kind: api.CGet, Key: key}}
	if i := slices.IndexFunc(d.Reply.Rows, func(r api.Row) bool { return r.Key == key }); i >= 0 {
		one.Reply = api.Reply{Found: true, Val: d.Reply.Rows[i].Val, Time: d.Reply.Rows[i].Time}
	}
	return one
}

// apart is the first key at which rows are not the same; "", which no rows have, if there is none.
func apart(rows, others []api.Row) string {
	n := min(len(rows), len(others))
	for i := range n {
		if rows[i] != others[i] {
			return min(rows[i].Key, others[i].Key)
		}
	}
	switch {
	case len(rows) > n:
		return rows[n].Key
	case len(others) > n:
		return others[n].Key
	}
	return ""
}
