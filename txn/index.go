package txn

import (
	"slices"

	"varve/api"
	"varve/hash"
	"varve/skip"
	"varve/sweep"
)

// step is what is done next; it tells what goes on behind it: nil, if nothing does.
type step func() step

// operation is one of a layer below, which is done step by step.
type operation interface {
	Step() bool
}

// finding is what an operation has come to.
type finding struct {
	key  string // of the list alone
	ref  int    // the key's node; of a sweep how many versions went
	is   bool
	code api.Errno
}

// span is a range of keys: from key on and below high (empty: all from key on).
type span struct {
	key, high string
}

func (s span) has(key string) bool {
	return key >= s.key && (s.high == "" || key < s.high)
}

// tell is what an operation that is done has found.
func tell(o operation) finding {
	var f finding
	switch x := o.(type) {
	case *hash.Op:
		f.ref, f.is, f.code = x.Ref()
	case *skip.Op:
		f.key, f.ref, f.is, f.code = x.Ref()
	case *sweep.Op:
		f.ref, f.code = x.Gone()
	}
	return f
}

// run does an operation, a step of it each; what it has found goes on within the last one.
func run(o operation, then func(finding) step) step {
	var next step
	next = func() step {
		if !o.Step() {
			return next
		}
		return then(tell(o))
	}
	return next
}

// walk goes through the keys of a span, rising: each is seen by a step, which is told how it goes on; end goes on behind the last one.
func (m *Memory) walk(s span, see func(f finding, on step) step, end step) step {
	return m.walkFrom(s.key, s, see, end)
}

func (m *Memory) walkFrom(key string, s span, see func(f finding, on step) step, end step) step {
	return run(m.list.Next(key), func(f finding) step {
		if !f.is || !s.has(f.key) {
			return end()
		}
		on := m.walkFrom(f.key+"\x00", s, see, end)
		return func() step { return see(f, on) }
	})
}

// withNode goes on with the node of the call's key, which gets one, if it has none.
func (c *call) withNode(then func(node int) step) step {
	return run(c.index.Lookup(c.asked.Key), func(f finding) step {
		if f.is {
			return c.ifRoom(f, then)
		}
		return func() step { return c.makeNode(then) }
	})
}

// makeNode puts the key in, if it is not there meanwhile. (An Insert that is given up has put nothing in.)
func (c *call) makeNode(then func(node int) step) step {
	node, e := c.freshNode()
	if e != api.OK {
		return c.abort(api.ErrTxnFull)
	}
	o := c.index.Insert(c.asked.Key, node)
	var next step
	next = func() step {
		if c.isFull(c.asked.Key) {
			c.spare = append(c.spare, node)
			return c.abort(api.ErrTxnFull)
		}
		if !o.Step() {
			return next
		}
		f := tell(o)
		if f.ref != node { // another worker's Insert came first
			c.spare = append(c.spare, node)
		}
		return c.ifRoom(f, then)
	}
	return next
}

// inList goes on once the call's key stands in the list. (That the index has it does not tell that: who has put it there may rest since.)
func (c *call) inList(node int, then func(node int) step) step {
	return run(c.list.Insert(c.asked.Key, node, c.asked.Draw), func(f finding) step { return c.ifRoom(f, then) })
}

// ifRoom goes on with a node, unless there were too few cells for its key.
func (c *call) ifRoom(f finding, then func(node int) step) step {
	if f.code != api.OK {
		return c.abort(api.ErrTxnFull)
	}
	return func() step { return then(f.ref) }
}

// freshNode is one that no key has.
func (m *Memory) freshNode() (int, api.Errno) {
	if n := len(m.spare); n > 0 {
		node := m.spare[n-1]
		m.spare = m.spare[:n-1]
		return node, api.OK
	}
	node, e := m.store.Node()
	if e == api.OK {
		m.nodes = append(m.nodes, node)
	}
	return node, e
}

// isFull: are there as many keys as there may be, and is this none of them? It is asked ahead of each step of an Insert, as others may put keys in between. (As long as there are no more nodes than keys may be, there is no need to count.)
func (m *Memory) isFull(key string) bool {
	if len(m.nodes) <= api.MaxOpen {
		return false
	}
	keys := m.index.Keys()
	return len(keys) >= api.MaxOpen && !slices.Contains(keys, key)
}
