package txn

import (
	"cmp"
	"slices"
	"strings"

	"varve/api"
	"varve/sweep"
	"varve/word"
)

// write is a key that a transaction has written.
type write struct {
	key  string
	node int
	old  int  // the version that was there, which it has ended (0: none)
	own  int  // the version that it has laid (0: none)
	gone bool // it has deleted its own one again
}

// read is a key of which a transaction was told whether it is there, and perhaps its value.
type read struct {
	key string
	val bool
}

// transaction is what a worker does from CBegin on.
type transaction struct {
	number int // in the store; of two the younger one has the greater one
	mode   int
	began  int64
	reads  []read  // what an optimistic one was told of keys, these rising
	ranges []span  // that it has read; a pessimistic one holds them
	held   []int   // the nodes whose locks it has
	writes []write // by rising keys
	time   int64   // that its commit has drawn
	sure   bool    // nothing but the log can be in the way of that
}

// call is a worker's, under way.
type call struct {
	*Memory
	w      int
	asked  api.Call
	waited int // steps, for others that hold
}

// first is a call's first step: it tells what is wrong, or goes on with what the call asks for.
func (c *call) first() step {
	if e := c.wrong(); e != api.OK {
		return c.refuse(e)
	}
	switch c.asked.Kind {
	case api.CBegin:
		return c.begin()
	case api.CGet:
		return c.get()
	case api.CScan:
		return c.scan()
	case api.CInsert, api.CUpdate, api.CDelete:
		return c.change()
	case api.CCommit:
		return c.commit()
	case api.CAbort:
		return c.abort(api.OK)
	}
	return c.sweep()
}

// wrong is a call's first error, as far as it does not hang on rows.
func (c *call) wrong() api.Errno {
	kind, has := c.asked.Kind, c.txn() != nil
	within := kind >= api.CGet && kind <= api.CAbort
	switch {
	case kind < api.CBegin || kind > api.CSweep:
		return api.ErrTxnCall
	case within && !has:
		return api.ErrTxnNone
	case !within && has:
		return api.ErrTxnOpen
	}
	switch kind {
	case api.CBegin:
		if c.asked.Mode != api.Optimistic && c.asked.Mode != api.Pessimistic {
			return api.ErrTxnCall
		}
	case api.CCheckpoint, api.CMerge:
		return api.ErrTxnCall
	}
	return c.wrongText()
}

func (c *call) wrongText() api.Errno {
	a := c.asked
	switch a.Kind {
	case api.CScan:
		if len(a.Key) > api.MaxKey || len(a.High) > api.MaxKey {
			return api.ErrTxnKey
		}
	case api.CGet, api.CInsert, api.CUpdate, api.CDelete:
		if !isKey(a.Key) {
			return api.ErrTxnKey
		}
	}
	if (a.Kind == api.CInsert || a.Kind == api.CUpdate) && len(a.Val) > api.MaxValue {
		return api.ErrTxnValue
	}
	return api.OK
}

func (c *call) begin() step {
	number, e := c.store.Txn()
	if e != api.OK {
		return c.refuse(api.ErrTxnFull)
	}
	c.workers[c.w].txn = &transaction{number: number, mode: c.asked.Mode, began: c.settled()}
	return c.answer(api.Reply{})
}

func (c *call) get() step {
	told := func(r api.Row, is bool) step { return c.answer(api.Reply{Found: is, Val: r.Val}) }
	if c.isPessimistic() {
		return c.withNode(func(node int) step {
			return c.see(finding{key: c.asked.Key, ref: node}, func(r api.Row, is bool) step {
				c.hold(want{node: node, key: c.asked.Key})
				return told(r, is)
			})
		})
	}
	c.txn().noteRead(c.asked.Key, true)
	return run(c.index.Lookup(c.asked.Key), func(f finding) step {
		if !f.is {
			return told(api.Row{}, false)
		}
		return func() step { return c.see(f, told) }
	})
}

func (c *call) scan() step {
	// A pessimistic one holds the range from here on: whoever writes into it behind this waits; whoever has come ahead is waited for.
	s := span{strings.Clone(c.asked.Key), strings.Clone(c.asked.High)}
	c.txn().noteRange(s)
	var rows []api.Row
	see := func(f finding, on step) step {
		return c.see(f, func(r api.Row, is bool) step {
			if is {
				rows = append(rows, api.Row{Key: r.Key, Val: r.Val})
			}
			return on
		})
	}
	return c.walk(s, see, func() step { return c.answer(api.Reply{Rows: rows}) })
}

// see is a step that looks at a key as the transaction does, and goes on within it, once nobody is in the way. (Of an optimistic one nobody is but a commit under way that may have come ahead of its begin.)
func (c *call) see(f finding, then func(r api.Row, is bool) step) step {
	again := func() step { return c.see(f, then) }
	if q := (want{node: f.ref, key: f.key}); c.isPessimistic() && c.isBlocked(q) {
		return c.wait(q, again)
	}
	r, is, sure := c.rowAt(f, c.view())
	if !sure {
		return again
	}
	return then(r, is)
}

// sweep looks at all nodes that there are when it begins: what comes later is newer than its mark.
func (c *call) sweep() step {
	var begins []int64
	for _, x := range c.workers {
		if x.txn != nil {
			begins = append(begins, x.txn.began)
		}
	}
	for _, s := range c.snaps {
		begins = append(begins, s.at)
	}
	o := sweep.Begin(c.store, c.nodes, sweep.Watermark(c.clock, begins))
	return run(o, func(f finding) step { return c.answer(api.Reply{N: f.ref}) })
}

// abort ends the transaction as if it had done nothing. It is one step, so that who goes to break a cycle is gone with it.
func (c *call) abort(code api.Errno) step {
	for _, w := range c.txn().writes {
		if w.own != 0 {
			c.store.Drop(w.node)
		}
		if w.old != 0 {
			c.store.SetEnd(w.old, word.Never)
		}
	}
	c.end()
	return c.answer(api.Reply{Code: code})
}

// end: the worker has no transaction any more.
func (c *call) end() {
	c.leave()
	c.store.Forget(c.txn().number)
	c.workers[c.w].txn = nil
	c.workers[c.w].wants = want{}
}

func (c *call) answer(r api.Reply) step { return c.workers[c.w].answer(r) }

func (c *call) refuse(e api.Errno) step { return c.answer(api.Reply{Code: e}) }

func (c *call) txn() *transaction { return c.workers[c.w].txn }

func (c *call) isPessimistic() bool { return c.txn().mode == api.Pessimistic }

// view: an optimistic transaction sees what was committed when it began, a pessimistic one what is.
func (c *call) view() view {
	t := c.txn()
	if c.isPessimistic() {
		return view{me: t.number, at: c.clock}
	}
	return view{me: t.number, at: t.began}
}

func (t *transaction) noteRead(key string, val bool) {
	i, is := slices.BinarySearchFunc(t.reads, key, func(r read, key string) int { return cmp.Compare(r.key, key) })
	if !is {
		t.reads = slices.Insert(t.reads, i, read{key: strings.Clone(key)})
	}
	t.reads[i].val = t.reads[i].val || val
}

func (t *transaction) noteRange(s span) {
	if !slices.Contains(t.ranges, s) {
		t.ranges = append(t.ranges, s)
	}
}

// holdsRange: has a pessimistic one read a range with a key?
func (t *transaction) holdsRange(key string) bool {
	if t == nil || t.mode != api.Pessimistic {
		return false
	}
	return slices.ContainsFunc(t.ranges, func(s span) bool { return s.has(key) })
}

// writeOf is the place of a key among those that it has written.
func (t *transaction) writeOf(key string) (int, bool) {
	return slices.BinarySearchFunc(t.writes, key, func(w write, key string) int { return cmp.Compare(w.key, key) })
}
