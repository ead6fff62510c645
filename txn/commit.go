package txn

import (
	"strings"

	"varve/api"
	"varve/word"
)

// commit goes on by these: an optimistic transaction holds what it has written; a timestamp is drawn; what an optimistic one has read is looked at as it is then; the log is waited for; what was written stands.
func (c *call) commit() step {
	if c.isPessimistic() {
		return c.draw
	}
	return c.holdWrites(c.txn().writes)
}

func (c *call) holdWrites(left []write) step {
	if len(left) == 0 {
		return c.draw
	}
	q := want{node: left[0].node, key: left[0].key, write: true}
	return c.holding(q, func() step { return c.holdWrites(left[1:]) })
}

func (c *call) draw() step {
	if c.clock == api.MaxTime-1 {
		return c.abort(api.ErrTxnTime)
	}
	c.clock++
	t := c.txn()
	t.time = c.clock
	state, _ := word.State(api.Preparing, t.time)
	c.store.SetState(t.number, state)
	if c.isPessimistic() {
		return c.last()
	}
	return c.checkReads(t.reads)
}

// checkReads goes on with the first of what was read of keys and is left, then with the ranges.
func (c *call) checkReads(left []read) step {
	if len(left) == 0 {
		return c.checkRanges(c.txn().ranges)
	}
	on := func() step { return c.checkReads(left[1:]) }
	return run(c.index.Lookup(left[0].key), func(f finding) step {
		if !f.is {
			return on()
		}
		return func() step { return c.check(f, left[0].val, on) }
	})
}

func (c *call) checkRanges(left []span) step {
	if len(left) == 0 {
		return c.last()
	}
	see := func(f finding, on step) step {
		return c.check(f, true, func() step { return on })
	}
	return c.walk(left[0], see, func() step { return c.checkRanges(left[1:]) })
}

// check is a step that looks whether a key, and perhaps its value, is as it was when the transaction began. It looks as nobody does, just ahead of the timestamp: so what the transaction has written itself is no matter.
func (c *call) check(f finding, val bool, on step) step {
	t := c.txn()
	was, had, _ := c.rowAt(f, view{at: t.began})
	now, has, sure := c.rowAt(f, view{at: t.time - 1})
	switch {
	case !sure:
		return func() step { return c.check(f, val, on) }
	case had != has || val && was.Val != now.Val:
		return c.abort(api.ErrTxnConflict)
	}
	return on()
}

// last: nothing but the log can be in the way any more.
func (c *call) last() step {
	t := c.txn()
	t.sure = true
	if c.log == nil || len(t.writes) == 0 {
		return c.stand
	}
	return c.put
}

func (c *call) put() step {
	ticket, e := c.log.Put(c.record())
	if e != api.OK {
		return c.fail(e)
	}
	return func() step { return c.flush(ticket) }
}

// flush asks the log once; others that commit do so, too, and may have done it for this one.
func (c *call) flush(ticket int) step {
	if c.log.Flushed() >= ticket {
		return c.stand()
	}
	if _, e := c.log.Flush(); e != api.OK {
		return c.fail(e)
	}
	return func() step { return c.flush(ticket) }
}

// fail: the transaction stays as it is, for nobody knows whether it lasts.
func (c *call) fail(e api.Errno) step {
	c.off = e
	return c.refuse(e)
}

// stand: all that was written stands, in one step.
func (c *call) stand() step {
	t := c.txn()
	at, _ := word.Time(t.time)
	for _, w := range t.writes {
		switch {
		case w.gone:
			c.store.Drop(w.node)
		case w.own != 0:
			c.store.SetBegin(w.own, at)
		}
		if w.old != 0 {
			c.store.SetEnd(w.old, at)
		}
	}
	c.ended = max(c.ended, t.time)
	c.end()
	return c.answer(api.Reply{Time: t.time})
}

// record is what the log is told: a key that was not there and is not is none of it.
func (c *call) record() api.Commit {
	t := c.txn()
	r := api.Commit{Time: t.time}
	for _, w := range t.writes {
		switch {
		case w.own != 0 && !w.gone:
			val, _ := c.store.Val(w.own)
			r.Writes = append(r.Writes, api.Write{Key: strings.Clone(w.key), Val: val})
		case w.old != 0:
			r.Writes = append(r.Writes, api.Write{Key: strings.Clone(w.key), Gone: true})
		}
	}
	return r
}
