package txn

import (
	"slices"

	"varve/api"
)

// Snap reads all rows as they are at a time, step by step.
type Snap struct {
	memory *Memory
	at     int64
	next   step // nil: it is done
	rows   []api.Row
}

// Snap begins one at the greatest timestamp so far.
func (m *Memory) Snap() *Snap {
	if m.isNone() {
		return nil
	}
	s := &Snap{memory: m, at: m.clock}
	s.next = m.walk(span{}, s.see, func() step { return nil })
	m.snaps = append(m.snaps, s)
	return s
}

// Step does a step; true: it is done.
func (s *Snap) Step() bool {
	if s.isDone() {
		return true
	}
	s.next = s.next()
	if s.isDone() {
		m := s.memory
		m.snaps = slices.DeleteFunc(m.snaps, func(other *Snap) bool { return other == s })
	}
	return s.isDone()
}

// Rows are what it has read, by rising keys; At the time.
func (s *Snap) Rows() []api.Row {
	if s == nil || !s.isDone() {
		return nil
	}
	return copyOf(s.rows)
}

func (s *Snap) At() int64 {
	if s == nil {
		return 0
	}
	return s.at
}

func (s *Snap) isDone() bool { return s == nil || s.next == nil }

// see is a step that looks at a key; it comes again as long as that hangs on a commit under way.
func (s *Snap) see(f finding, on step) step {
	r, is, sure := s.memory.rowAt(f, view{at: s.at})
	if !sure {
		return func() step { return s.see(f, on) }
	}
	if is {
		s.rows = append(s.rows, r)
	}
	return on
}
