package model_test

import (
	"fmt"
	"math/rand"
	"slices"
	"strings"
	"testing"

	"varve/api"
	"varve/model"
)

// plain is a model told more plainly: a transaction has a copy of all rows, and the keys that it has written.
type plain struct {
	rows  []api.Row
	time  int64
	open  bool
	own   []api.Row
	wrote []string
}

func find(rows []api.Row, key string) (int, bool) {
	for i, r := range rows {
		if r.Key >= key {
			return i, r.Key == key
		}
	}
	return len(rows), false
}

// with is rows with another one, in the place of that with its key, if there is one.
func with(rows []api.Row, r api.Row) []api.Row {
	at, is := find(rows, r.Key)
	if is {
		return slices.Replace(slices.Clone(rows), at, at+1, r)
	}
	return slices.Insert(slices.Clone(rows), at, r)
}

func without(rows []api.Row, key string) []api.Row {
	if at, is := find(rows, key); is {
		return slices.Delete(slices.Clone(rows), at, at+1)
	}
	return rows
}

// first is a call's first error: the lines of P18.2, each with the calls that it is of.
func (p *plain) first(c api.Call) api.Errno {
	_, there := find(p.own, c.Key)
	of := func(kinds ...int) bool { return slices.Contains(kinds, c.Kind) }
	for _, line := range []struct {
		wrong bool
		code  api.Errno
	}{
		{c.Kind < 1 || c.Kind > 11, api.ErrTxnCall},
		{of(2, 3, 4, 5, 6, 7, 8) && !p.open, api.ErrTxnNone},
		{of(1, 9, 10, 11) && p.open, api.ErrTxnOpen},
		{of(1) && c.Mode != 1 && c.Mode != 2, api.ErrTxnCall},
		{of(2, 4, 5, 6) && (len(c.Key) == 0 || len(c.Key) > 16), api.ErrTxnKey},
		{of(3) && (len(c.Key) > 16 || len(c.High) > 16), api.ErrTxnKey},
		{of(4, 5) && len(c.Val) > 64, api.ErrTxnValue},
		{of(4) && there, api.ErrTxnHas},
		{of(5, 6) && !there, api.ErrTxnMissing},
	} {
		if line.wrong {
			return line.code
		}
	}
	return api.OK
}

func (p *plain) end() {
	p.open, p.own, p.wrote = false, nil, nil
}

func (p *plain) do(c api.Call) api.Reply {
	if e := p.first(c); e != api.OK {
		return api.Reply{Code: e}
	}
	var reply api.Reply
	switch c.Kind {
	case api.CBegin:
		p.open, p.own, p.wrote = true, p.rows, nil
	case api.CGet:
		if at, is := find(p.own, c.Key); is {
			reply = api.Reply{Found: true, Val: p.own[at].Val}
		}
	case api.CScan:
		for _, r := range p.own {
			if r.Key >= c.Key && (len(c.High) == 0 || r.Key < c.High) {
				reply.Rows = append(reply.Rows, api.Row{Key: r.Key, Val: r.Val})
			}
		}
	case api.CInsert, api.CUpdate, api.CDelete:
		reply.Code = p.write(c)
	case api.CCommit:
		reply = p.commit()
	case api.CAbort:
		p.end()
	}
	return reply
}

func (p *plain) write(c api.Call) api.Errno {
	if !slices.Contains(p.wrote, c.Key) {
		p.wrote = append(p.wrote, c.Key)
	}
	if len(p.wrote) > 64 {
		p.end()
		return api.ErrTxnFull
	}
	p.own = without(p.own, c.Key)
	if c.Kind != api.CDelete {
		p.own = with(p.own, api.Row{Key: c.Key, Val: c.Val})
	}
	return api.OK
}

func (p *plain) commit() api.Reply {
	defer p.end()
	if p.time+1 >= 1<<40 {
		return api.Reply{Code: api.ErrTxnTime}
	}
	p.time++
	rows := slices.Clone(p.own)
	for i := range rows {
		if slices.Contains(p.wrote, rows[i].Key) {
			rows[i].Time = p.time
		}
	}
	p.rows = rows
	return api.Reply{Time: p.time}
}

func (p *plain) apply(c api.Commit) api.Errno {
	wrong := p.open || c.Time <= p.time || c.Time >= 1<<40 || len(c.Writes) > 64
	rows := p.rows
	for i, w := range c.Writes {
		wrong = wrong || len(w.Key) == 0 || len(w.Key) > 16 || len(w.Val) > 64 || w.Gone && w.Val != "" || i > 0 && c.Writes[i-1].Key >= w.Key
		rows = without(rows, w.Key)
		if !w.Gone {
			rows = with(rows, api.Row{Key: w.Key, Val: w.Val, Time: c.Time})
		}
	}
	if wrong {
		return api.ErrModelForm
	}
	p.rows, p.time = rows, c.Time
	return api.OK
}

// pairOf is a model, and a plainer one beside it.
type pairOf struct {
	t *testing.T
	m *model.Model
	p *plain
}

func newPair(t *testing.T, rows []api.Row) *pairOf {
	p := &plain{rows: rows}
	for _, r := range rows {
		p.time = max(p.time, r.Time)
	}
	return &pairOf{t: t, m: newModel(t, rows...), p: p}
}

func (b *pairOf) do(c api.Call) api.Reply {
	b.t.Helper()
	got, want := b.m.Do(c), b.p.do(c)
	if !sameReply(got, want) {
		b.t.Fatalf("%v: %v, not %v", c, got, want)
	}
	b.look()
	return got
}

func (b *pairOf) apply(c api.Commit) api.Errno {
	b.t.Helper()
	got, want := b.m.Apply(c), b.p.apply(c)
	if got != want {
		b.t.Fatalf("Apply(%v): %v, not %v", c, got, want)
	}
	b.look()
	return got
}

func (b *pairOf) look() {
	b.t.Helper()
	has(b.t, b.m, b.p.time, b.p.rows...)
}

// maker makes calls and commits at random, most of them right.
type maker struct {
	*rand.Rand
	keys int
}

func (r maker) key() string {
	switch r.Intn(40) {
	case 0:
		return ""
	case 1:
		return key16
	case 2:
		return key17
	}
	return fmt.Sprint(r.Intn(r.keys))
}

func (r maker) val() string {
	if r.Intn(30) == 0 {
		return val65[:64+r.Intn(2)]
	}
	return fmt.Sprint(r.Intn(5))[r.Intn(2):]
}

func (r maker) call() api.Call {
	kinds := []int{-1, 0, 1, 1, 2, 2, 3, 4, 4, 4, 4, 5, 5, 5, 6, 6, 6, 7, 8, 9, 10, 11, 12}
	if r.keys > 50 { // so that a transaction comes to its 65th key
		kinds = []int{1, 2, 3, 4, 4, 4, 4, 4, 4, 5, 5, 5, 5, 5, 5, 6, 6, 6, 6, 6, 6, 9, 10, 11}
		if r.Intn(200) == 0 {
			kinds = []int{7, 8}
		}
	}
	c := api.Call{Kind: kinds[r.Intn(len(kinds))], Key: r.key(), Val: r.val(), Draw: r.Intn(9), N: r.Intn(9)}
	c.Mode = 1 + r.Intn(2)
	if r.Intn(20) == 0 {
		c.Mode = 3 * r.Intn(2)
	}
	if r.Intn(2) == 0 {
		c.High = r.key()
	}
	return c
}

func (r maker) commit(time int64) api.Commit {
	c := api.Commit{Time: time - 1 + int64(r.Intn(9))}
	for range r.Intn(5) {
		w := api.Write{Key: r.key(), Val: r.val()}
		if r.Intn(3) == 0 {
			w.Gone = true
			w.Val = w.Val[:min(len(w.Val), r.Intn(5)/4)]
		}
		c.Writes = append(c.Writes, w)
	}
	if r.Intn(8) > 0 {
		slices.SortFunc(c.Writes, func(a, b api.Write) int { return strings.Compare(a.Key, b.Key) })
		c.Writes = slices.CompactFunc(c.Writes, func(a, b api.Write) bool { return a.Key == b.Key })
	}
	return c
}

// P18.1 to P18.3: whatever is asked, a model answers what a plainer one does.
func TestAgainstPlainer(t *testing.T) {
	codes := map[api.Errno]int{}
	for seed := range 150 {
		r := maker{rand.New(rand.NewSource(int64(seed))), []int{2, 6, 20, 300}[seed%4]}
		begins := []api.Row{row("1", "x", 3), row("3", "y", 0)}
		if seed%10 == 9 {
			begins = []api.Row{row("1", "x", lastTime-9)}
		}
		b := newPair(t, begins)
		for range 1200 {
			if r.Intn(25) == 0 {
				codes[b.apply(r.commit(b.p.time))]++
				continue
			}
			codes[b.do(r.call()).Code]++
		}
	}
	for _, code := range []api.Errno{api.OK, api.ErrModelForm, api.ErrTxnCall, api.ErrTxnNone, api.ErrTxnOpen, api.ErrTxnKey, api.ErrTxnValue, api.ErrTxnHas, api.ErrTxnMissing, api.ErrTxnFull, api.ErrTxnTime} {
		if codes[code] < 20 {
			t.Errorf("%v was answered only %d times", code, codes[code])
		}
	}
}
