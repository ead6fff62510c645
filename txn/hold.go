package txn

import (
	"slices"

	"varve/api"
	"varve/lock"
)

// patience is how many steps of one call may wait for others that hold.
const patience = 8000

// want is what a worker would hold, and perhaps waits for: a key's node, to read it or to write it. The zero want is none.
type want struct {
	node  int
	key   string
	write bool
}

// inWay are the workers that are in the way of one: those in the node's lock word, and, if it would write, those that have read a range with the key. (If it is the writer already, it has come ahead of whoever has begun to read such a range since.)
func (m *Memory) inWay(w int, q want) []int {
	l, _ := m.store.Lock(q.node)
	others := lock.Against(l, w, q.write)
	if writer, is := lock.Writer(l); !q.write || is && writer == w {
		return others
	}
	for v := range m.workers {
		if v != w && m.workers[v].txn.holdsRange(q.key) {
			others = append(others, v)
		}
	}
	return others
}

// rival is another worker's transaction that holds a node as its writer; nil, if there is none.
func (c *call) rival(node int) *transaction {
	l, _ := c.store.Lock(node)
	writer, is := lock.Writer(l)
	if !is || writer == c.w {
		return nil
	}
	return c.workers[writer].txn
}

// hold is asked when nobody is in the way.
func (c *call) hold(q want) {
	l, _ := c.store.Lock(q.node)
	take := lock.Read
	if q.write {
		take = lock.Write
	}
	now, _, _ := take(l, c.w)
	c.store.TakeLock(q.node, l, now)
	if t := c.txn(); !slices.Contains(t.held, q.node) {
		t.held = append(t.held, q.node)
	}
}

// leave lets all go that the worker's transaction holds.
func (c *call) leave() {
	for _, node := range c.txn().held {
		l, _ := c.store.Lock(node)
		now, _ := lock.Leave(l, c.w)
		c.store.TakeLock(node, l, now)
	}
}

func (c *call) isBlocked(q want) bool { return len(c.inWay(c.w, q)) > 0 }

// holding holds what is wanted as soon as nobody is in the way, and goes on within that step.
func (c *call) holding(q want, then step) step {
	var next step
	next = func() step {
		if c.isBlocked(q) {
			return c.wait(q, next)
		}
		c.hold(q)
		return then()
	}
	return next
}

// wait comes again, unless the worker has waited too long, or is the one that goes of those that wait in a cycle.
func (c *call) wait(q want, again step) step {
	c.workers[c.w].wants = q
	c.waited++
	switch {
	case c.mustGo(c.w):
		return c.abort(api.ErrTxnDeadlock)
	case c.waited >= patience:
		return c.abort(api.ErrTxnConflict)
	}
	return again
}

// mustGo: is the worker the youngest of some that wait in a cycle? So there is one to go of each cycle, the same whoever asks; that it is gone is seen by the others at once, as it is asked anew who is in whose way. Workers that are younger are left out: of a cycle with such a one that one goes.
func (m *Memory) mustGo(w int) bool {
	g := lock.NewGraph()
	for v, x := range m.workers {
		if x.wants.node != 0 && x.txn.number <= m.workers[w].txn.number {
			g.Wait(v, m.inWay(v, x.wants)...)
		}
	}
	_, is := g.Cycle(w)
	return is
}
