package txn

import (
	"iter"

	"varve/api"
	"varve/word"
)

// view is who looks at versions, and at which time.
type view struct {
	me    int // a transaction; 0: nobody
	at    int64
	early bool // commits under way are taken as if they were not yet
}

// look is the version of a node that is seen, 0 if none is; false: that hangs on a commit under way. It is one step, for the node is touched, and all that hangs on it.
func (m *Memory) look(node int, v view) (int, bool) {
	for version := range m.chain(node) {
		begin, _ := m.store.Begin(version)
		end, _ := m.store.End(version)
		b, e := m.stateOf(begin, v), m.stateOf(end, v)
		switch begun, _ := word.Sees(v.me, v.at, begin, word.Never, b, 0); begun {
		case api.Hidden:
			continue
		case api.Unsure:
			return 0, false
		}
		// It is the newest that has begun: all behind it have ended ahead of it.
		switch verdict, _ := word.Sees(v.me, v.at, begin, end, b, e); verdict {
		case api.Seen:
			return version, true
		case api.Unsure:
			return 0, false
		}
		return 0, true
	}
	return 0, true
}

// rowAt is what is seen of a key: its row, and whether there is one; the last one: is that sure?
func (m *Memory) rowAt(f finding, v view) (api.Row, bool, bool) {
	version, sure := m.look(f.ref, v)
	if version == 0 {
		return api.Row{}, false, sure
	}
	val, _ := m.store.Val(version)
	begin, _ := m.store.Begin(version)
	at, _, _ := word.Parts(begin)
	return api.Row{Key: f.key, Val: val, Time: at}, true, true
}

// chain goes through a node's versions, the newest first, and no further than it is asked.
func (m *Memory) chain(node int) iter.Seq[int] {
	return func(yield func(int) bool) {
		version, e := m.store.Head(node)
		for e == api.OK && version != 0 && yield(version) {
			version, e = m.store.Next(version)
		}
	}
}

// stateOf is the state word of a version's word's owner (0, if it has none, which is not looked at then).
func (m *Memory) stateOf(w uint64, v view) uint64 {
	_, owner, _ := word.Parts(w)
	state, _ := m.store.State(owner)
	if kind, _, _ := word.Unstate(state); v.early && kind == api.Preparing {
		return 0 // Active
	}
	return state
}

// settled is the time at which a transaction begins: all commits that are over are not above it, and as few as may be that are under way, for which its reads would have to wait.
func (m *Memory) settled() int64 {
	at := m.clock
	for _, x := range m.workers {
		if x.txn != nil && x.txn.time > 0 {
			at = min(at, x.txn.time-1)
		}
	}
	return max(at, m.ended)
}
