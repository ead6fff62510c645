package txn

import (
	"slices"
	"strings"

	"varve/api"
	"varve/word"
)

// change finds the key's node; one that may be put in, or is asked for by a pessimistic transaction, gets one.
func (c *call) change() step {
	if c.asked.Kind == api.CInsert {
		return c.withNode(func(node int) step { return c.inList(node, c.changeNode) })
	}
	if c.isPessimistic() {
		return c.withNode(c.changeNode)
	}
	return run(c.index.Lookup(c.asked.Key), func(f finding) step {
		if !f.is {
			c.txn().noteRead(c.asked.Key, false)
			return c.refuse(api.ErrTxnMissing)
		}
		return func() step { return c.changeNode(f.ref) }
	})
}

// changeNode is the step that writes, or tells why it does not.
func (c *call) changeNode(node int) step {
	again := func() step { return c.changeNode(node) }
	toRead := want{node: node, key: c.asked.Key}
	toWrite := want{node: node, key: c.asked.Key, write: true}
	if r := c.rival(node); r != nil && c.isPessimistic() {
		if r.mode == api.Optimistic { // it commits
			return c.abort(api.ErrTxnConflict)
		}
		return c.wait(toRead, again)
	}
	old, sure := c.look(node, c.view())
	if !sure { // who has written the key has not ended
		return c.abort(api.ErrTxnConflict)
	}
	if e := c.refusal(old != 0); e != api.OK {
		c.keepRead(toRead)
		return c.refuse(e)
	}
	t := c.txn()
	i, wrote := t.writeOf(c.asked.Key)
	switch {
	case !wrote && len(t.writes) == api.MaxWrites:
		return c.abort(api.ErrTxnFull)
	case c.isTaken(node):
		return c.abort(api.ErrTxnConflict)
	case c.isPessimistic() && c.isBlocked(toWrite):
		return c.wait(toWrite, again)
	}
	if c.isPessimistic() {
		c.hold(toWrite)
	}
	if !wrote {
		t.writes = slices.Insert(t.writes, i, write{key: strings.Clone(c.asked.Key), node: node})
	}
	return c.lay(&t.writes[i], old)
}

// refusal: may the key be written, as it is there or not?
func (c *call) refusal(there bool) api.Errno {
	switch inserts := c.asked.Kind == api.CInsert; {
	case inserts && there:
		return api.ErrTxnHas
	case !inserts && !there:
		return api.ErrTxnMissing
	}
	return api.OK
}

// keepRead: that a key is there, or not, was told.
func (c *call) keepRead(q want) {
	if c.isPessimistic() {
		c.hold(q)
		return
	}
	c.txn().noteRead(q.key, false)
}

// isTaken: has another transaction written the key, that has not ended, or that this one does not see? The newest version tells.
func (c *call) isTaken(node int) bool {
	head, _ := c.store.Head(node)
	if head == 0 {
		return false
	}
	begin, _ := c.store.Begin(head)
	end, _ := c.store.End(head)
	return c.isOthers(begin) || c.isOthers(end)
}

func (c *call) isOthers(w uint64) bool {
	at, owner, _ := word.Parts(w)
	if owner != 0 {
		return owner != c.txn().number
	}
	return w != word.Never && at > c.view().at
}

// lay ends the version that was there, and puts another one in its place, unless the key is deleted.
func (c *call) lay(w *write, old int) step {
	me, _ := word.Owner(c.txn().number)
	deletes := c.asked.Kind == api.CDelete
	switch {
	case w.own != 0 && deletes:
		// It stays, though nobody sees it any more: so others are told that the key is written.
		c.store.SetEnd(w.own, me)
		w.gone = true
	case w.own != 0:
		c.store.Drop(w.node)
		w.own = 0
	case old != 0:
		c.store.TakeEnd(old, word.Never, me)
		w.old = old
	}
	if deletes {
		return c.answer(api.Reply{})
	}
	head, _ := c.store.Head(w.node)
	own, e := c.store.Version(c.asked.Val, me, head)
	if e != api.OK {
		return c.abort(api.ErrTxnFull)
	}
	c.store.Push(w.node, head, own)
	w.own, w.gone = own, false
	return c.answer(api.Reply{})
}
