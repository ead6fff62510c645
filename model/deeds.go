package model

import (
	"slices"

	"varve/api"
)

// wrongs tell what may be wrong with a call, the first one first; behind the last one stand nils. They are an array, and not a list, so that no call needs memory for the table.
type wrongs [4]func(m *Model, c api.Call) api.Errno

// deed is what a Kind of call does: what it is answered, if nothing is wrong with it.
type deed struct {
	wrongs wrongs
	answer func(m *Model, c api.Call) api.Reply
}

// deeds are those of all Kinds.
func deeds() [api.CSweep + 1]deed {
	return [api.CSweep + 1]deed{
		api.CBegin:      {wrongs{(*Model).isOpen, (*Model).noMode}, (*Model).begin},
		api.CGet:        {wrongs{(*Model).isNotOpen, (*Model).noKey}, (*Model).get},
		api.CScan:       {wrongs{(*Model).isNotOpen, (*Model).noSpan}, (*Model).scan},
		api.CInsert:     {wrongs{(*Model).isNotOpen, (*Model).noKey, (*Model).noValue, (*Model).isThere}, (*Model).put},
		api.CUpdate:     {wrongs{(*Model).isNotOpen, (*Model).noKey, (*Model).noValue, (*Model).isMissing}, (*Model).put},
		api.CDelete:     {wrongs{(*Model).isNotOpen, (*Model).noKey, (*Model).isMissing}, (*Model).take},
		api.CCommit:     {wrongs{(*Model).isNotOpen}, (*Model).commit},
		api.CAbort:      {wrongs{(*Model).isNotOpen}, (*Model).abort},
		api.CCheckpoint: {wrongs{(*Model).isOpen}, (*Model).rest},
		api.CMerge:      {wrongs{(*Model).isOpen}, (*Model).rest},
		api.CSweep:      {wrongs{(*Model).isOpen}, (*Model).rest},
	}
}

func (m *Model) isOpen(api.Call) api.Errno { return errIf(m.wrote != nil, api.ErrTxnOpen) }

func (m *Model) isNotOpen(api.Call) api.Errno { return errIf(m.wrote == nil, api.ErrTxnNone) }

func (m *Model) noMode(c api.Call) api.Errno {
	return errIf(c.Mode != api.Optimistic && c.Mode != api.Pessimistic, api.ErrTxnCall)
}

func (m *Model) noKey(c api.Call) api.Errno { return errIf(!isKey(c.Key), api.ErrTxnKey) }

// noSpan: either end may be empty, though no key may.
func (m *Model) noSpan(c api.Call) api.Errno {
	return errIf(len(c.Key) > api.MaxKey || len(c.High) > api.MaxKey, api.ErrTxnKey)
}

func (m *Model) noValue(c api.Call) api.Errno { return errIf(!isValue(c.Val), api.ErrTxnValue) }

func (m *Model) isThere(c api.Call) api.Errno {
	_, is := m.look(c.Key)
	return errIf(is, api.ErrTxnHas)
}

func (m *Model) isMissing(c api.Call) api.Errno {
	_, is := m.look(c.Key)
	return errIf(!is, api.ErrTxnMissing)
}

func (m *Model) begin(api.Call) api.Reply {
	m.wrote = map[string]api.Write{}
	return api.Reply{}
}

func (m *Model) get(c api.Call) api.Reply {
	val, is := m.look(c.Key)
	return api.Reply{Found: is, Val: val}
}

func (m *Model) scan(c api.Call) api.Reply {
	var rows []api.Row
	see := func(key string) {
		if key < c.Key || c.High != "" && key >= c.High {
			return
		}
		if val, is := m.look(key); is {
			rows = append(rows, api.Row{Key: key, Val: val})
		}
	}
	for key := range m.wrote {
		see(key)
	}
	for key := range m.rows {
		if _, own := m.wrote[key]; !own {
			see(key)
		}
	}
	slices.SortFunc(rows, byKey)
	return api.Reply{Rows: rows}
}

func (m *Model) put(c api.Call) api.Reply { return m.write(api.Write{Key: c.Key, Val: c.Val}) }

func (m *Model) take(c api.Call) api.Reply { return m.write(api.Write{Key: c.Key, Gone: true}) }

func (m *Model) write(w api.Write) api.Reply {
	if _, again := m.wrote[w.Key]; !again && len(m.wrote) == api.MaxWrites {
		m.wrote = nil
		return api.Reply{Code: api.ErrTxnFull}
	}
	m.wrote[w.Key] = w
	return api.Reply{}
}

func (m *Model) commit(api.Call) api.Reply {
	wrote := m.wrote
	m.wrote = nil
	if !isTime(m.time + 1) {
		return api.Reply{Code: api.ErrTxnTime}
	}
	m.time++
	for _, w := range wrote {
		m.lay(w)
	}
	return api.Reply{Time: m.time}
}

func (m *Model) abort(api.Call) api.Reply {
	m.wrote = nil
	return api.Reply{}
}

// rest: a map has nothing to checkpoint, to merge or to sweep.
func (m *Model) rest(api.Call) api.Reply { return api.Reply{} }

func errIf(wrong bool, e api.Errno) api.Errno {
	if wrong {
		return e
	}
	return api.OK
}
