package hist_test

import (
	"maps"
	"math"
	"math/rand"
	"slices"
	"strconv"
	"testing"

	"varve/api"
	"varve/hist"
)

// table is rows, told plainly: values by keys.
type table map[string]string

func tableOf(rows []api.Row) table {
	t := table{}
	for _, r := range rows {
		t[r.Key] = r.Val
	}
	return t
}

// deal is one transaction on a copy of a table.
type deal struct {
	now   table
	wrote map[string]bool
}

func (t table) deal() deal { return deal{maps.Clone(t), map[string]bool{}} }

// do does a call that reads or writes.
func (d deal) do(c api.Call) api.Reply {
	if e := wrong(c, true); e != api.OK {
		return code(e)
	}
	val, is := d.now[c.Key]
	switch {
	case c.Kind == api.CGet:
		return api.Reply{Found: is, Val: val}
	case c.Kind == api.CScan:
		var r api.Reply
		for _, key := range slices.Sorted(maps.Keys(d.now)) {
			if key >= c.Key && (c.High == "" || key < c.High) {
				r.Rows = append(r.Rows, row(key, d.now[key], 0))
			}
		}
		return r
	case c.Kind == api.CInsert && is:
		return code(api.ErrTxnHas)
	case c.Kind != api.CInsert && !is:
		return code(api.ErrTxnMissing)
	case !d.wrote[c.Key] && len(d.wrote) == 64:
		return code(api.ErrTxnFull)
	}
	d.wrote[c.Key] = true
	delete(d.now, c.Key)
	if c.Kind != api.CDelete {
		d.now[c.Key] = c.Val
	}
	return ok
}

// wrong is a call's first error.
func wrong(c api.Call, open bool) api.Errno {
	k := c.Kind
	inside := k >= 2 && k <= 8
	switch {
	case k < 1 || k > 11:
		return api.ErrTxnCall
	case inside && !open:
		return api.ErrTxnNone
	case !inside && open:
		return api.ErrTxnOpen
	case k == 1 && c.Mode != 1 && c.Mode != 2:
		return api.ErrTxnCall
	case (k == 2 || k == 4 || k == 5 || k == 6) && (c.Key == "" || len(c.Key) > 16), k == 3 && (len(c.Key) > 16 || len(c.High) > 16):
		return api.ErrTxnKey
	case (k == 4 || k == 5) && len(c.Val) > 64:
		return api.ErrTxnValue
	}
	return api.OK
}

func among(e api.Errno, list ...int) bool { return slices.Contains(list, int(e)) }

func isMute(e api.Errno) bool { return among(e, 20, 21, 22, 23, 24, 80, 81) }

func doesAbort(e api.Errno) bool { return among(e, 158, 159, 160, 161) }

func sameReply(a, b api.Reply) bool {
	return a.Code == b.Code && a.Val == b.Val && a.Found == b.Found && a.Time == b.Time && a.N == b.N && slices.Equal(a.Rows, b.Rows)
}

// verdict is what is told of a history; rule is the line of P19.1 that says so.
type verdict struct {
	at   int
	code api.Errno
	rule int
}

// plain is a history that is held against each line of P19.1, one behind the other.
type plain struct {
	rows []api.Row
	l    []api.Done
}

func (p plain) formed() (int, bool) {
	for i, r := range p.rows {
		if r.Key == "" || len(r.Key) > 16 || len(r.Val) > 64 || r.Time < 0 || r.Time >= 1<<40 || i > 0 && p.rows[i-1].Key >= r.Key {
			return 0, false
		}
	}
	if len(p.rows) > 4096 || len(p.l) > 4096 {
		return 0, false
	}
	for i, d := range p.l {
		if d.W < 0 || d.W > 15 || d.Begun < 0 || d.Begun >= d.Ended {
			return i, false
		}
		for j, e := range p.l[:i] {
			if j == i-1 && e.Ended >= d.Ended || e.W == d.W && (e.Ended > d.Begun || isMute(e.Reply.Code)) {
				return i, false
			}
		}
	}
	return 0, true
}

// opened is the place of the CBegin of the transaction that a call's worker has, or -1.
func (p plain) opened(i int) int {
	open := -1
	for j, d := range p.l[:i] {
		switch k := d.Call.Kind; {
		case d.W != p.l[i].W:
		case open < 0 && k == api.CBegin && d.Reply.Code == api.OK:
			open = j
		case open >= 0 && (doesAbort(d.Reply.Code) || (k == api.CCommit || k == api.CAbort) && d.Reply.Code == api.OK):
			open = -1
		}
	}
	return open
}

// mayBe: the list of what a reply may be, as it stands under Words.
func (p plain) mayBe(i int) bool {
	c, r := p.l[i].Call, p.l[i].Reply
	open := p.opened(i) >= 0
	bare := sameReply(r, code(r.Code))
	if e := wrong(c, open); e != api.OK {
		return bare && (isMute(r.Code) || r.Code == e)
	}
	switch c.Kind {
	case api.CCheckpoint, api.CMerge, api.CSweep:
		return true
	case api.CBegin:
		return bare && (isMute(r.Code) || among(r.Code, 0, 160))
	case api.CAbort:
		return bare && (isMute(r.Code) || doesAbort(r.Code) || r.Code == api.OK)
	case api.CCommit:
		return bare && (isMute(r.Code) || doesAbort(r.Code)) || sameReply(r, at(r.Time))
	}
	return bare || !isMute(r.Code) && !doesAbort(r.Code)
}

// ended is the place of the CCommit, answered OK, of the transaction whose CBegin is at i, or -1.
func (p plain) ended(i int) int {
	for j := i + 1; j < len(p.l); j++ {
		if d := p.l[j]; d.Call.Kind == api.CCommit && d.Reply.Code == api.OK && d.W == p.l[i].W && p.opened(j) == i {
			return j
		}
	}
	return -1
}

// begins are the places of all CBegins that began something.
func (p plain) begins() []int {
	var list []int
	for i, d := range p.l {
		if d.Call.Kind == api.CBegin && d.Reply.Code == api.OK {
			list = append(list, i)
		}
	}
	return list
}

// run is what a table has become by a transaction, whose CBegin is at i, and what it has done to it; the place of the call that it answers otherwise, or -1.
func (p plain) run(now table, i int) (deal, int) {
	d := now.deal()
	for j := i + 1; j < len(p.l); j++ {
		c, r := p.l[j].Call, p.l[j].Reply
		if p.l[j].W != p.l[i].W || p.opened(j) != i || c.Kind < api.CGet || c.Kind > api.CDelete || doesAbort(r.Code) || isMute(r.Code) {
			continue
		}
		if !sameReply(d.do(c), r) {
			return d, j
		}
	}
	return d, -1
}

func (p plain) greatest() int64 {
	time := int64(0)
	for _, r := range p.rows {
		time = max(time, r.Time)
	}
	return time
}

// committed are the places of CBegins, by those of their CCommits.
func (p plain) committed() map[int]int {
	list := map[int]int{}
	for _, i := range p.begins() {
		if j := p.ended(i); j >= 0 {
			list[j] = i
		}
	}
	return list
}

func (p plain) inTime(ends map[int]int, j int) bool {
	time := p.l[j].Reply.Time
	if time <= p.greatest() || time >= 1<<40 {
		return false
	}
	for k := range ends {
		other := p.l[k].Reply.Time
		if k < j && other == time || k != j && p.l[k].Ended <= p.l[ends[j]].Begun && other >= time {
			return false
		}
	}
	return true
}

// judge is what Check and Commits are to say.
func (p plain) judge() (verdict, []api.Commit) {
	if i, is := p.formed(); !is {
		return verdict{i, api.ErrHistForm, 1}, nil
	}
	for i := range p.l {
		if !p.mayBe(i) {
			return verdict{i, api.ErrHistRead, 2}, nil
		}
	}
	ends := p.committed()
	order := slices.Sorted(maps.Keys(ends))
	for _, j := range order {
		if !p.inTime(ends, j) {
			return verdict{j, api.ErrHistOrder, 3}, nil
		}
	}
	slices.SortFunc(order, func(a, b int) int { return int(p.l[a].Reply.Time - p.l[b].Reply.Time) })
	tables := []table{tableOf(p.rows)}
	var list []api.Commit
	for k, j := range order {
		d, at := p.run(tables[k], ends[j])
		if at >= 0 {
			return verdict{at, api.ErrHistRead, 4}, nil
		}
		list = append(list, writes(p.l[j].Reply.Time, d.writes(tables[k])...))
		tables = append(tables, d.now)
	}
	for _, i := range p.begins() {
		if p.ended(i) < 0 && !p.explained(tables, order, i) {
			return verdict{i, api.ErrHistRead, 5}, nil
		}
	}
	return verdict{}, list
}

// writes tells what was done to a table.
func (d deal) writes(ahead table) []api.Write {
	var list []api.Write
	for _, key := range slices.Sorted(maps.Keys(d.wrote)) {
		_, was := ahead[key]
		if val, is := d.now[key]; is {
			list = append(list, put(key, val))
		} else if was {
			list = append(list, gone(key))
		}
	}
	return list
}

func (p plain) explained(tables []table, order []int, i int) bool {
	for k, now := range tables {
		all := true
		for _, j := range order[k:] {
			all = all && p.l[j].Ended > p.l[i].Begun
		}
		if _, at := p.run(now, i); all && at < 0 {
			return true
		}
	}
	return false
}

// worker is what one of them is about, while a history is made.
type worker struct {
	open  bool
	deal  deal
	calls []api.Call // of its transaction, with their replies
	said  []api.Reply
	under bool // a call
	begun int
	call  api.Call
	reply api.Reply
	dead  bool
}

// maker makes histories at random that are right: transactions read what was committed when they began, and commit, if they would have been answered the same now.
type maker struct {
	*rand.Rand
	keys    int
	rows    []api.Row
	l       []api.Done
	now     int
	time    int64
	table   table
	workers [16]worker
}

func newMaker(seed, keys int) *maker {
	r := &maker{Rand: rand.New(rand.NewSource(int64(seed))), keys: keys}
	for i := range keys {
		if r.Intn(2) == 0 {
			r.rows = append(r.rows, row(name(i), strconv.Itoa(r.Intn(3)), int64(r.Intn(9))))
			r.time = max(r.time, r.rows[len(r.rows)-1].Time)
		}
	}
	r.table = tableOf(r.rows)
	return r
}

func (r *maker) key() string {
	switch r.Intn(60) {
	case 0:
		return ""
	case 1:
		return key17
	}
	return name(r.Intn(r.keys))
}

func (r *maker) ask() api.Call {
	kinds := []int{1, 1, 1, 2, 2, 2, 2, 3, 3, 4, 4, 4, 5, 5, 5, 6, 6, 7, 7, 7, 8, 9, 10, 11}
	c := api.Call{Kind: kinds[r.Intn(len(kinds))], Mode: 1 + r.Intn(2), Key: r.key(), Val: strconv.Itoa(r.Intn(3)), Draw: r.Intn(9), N: r.Intn(3)}
	if r.Intn(2) == 0 {
		c.High = r.key()
	}
	switch r.Intn(90) {
	case 0:
		c.Mode = 3
	case 1:
		c.Kind = 12 * r.Intn(2)
	case 2:
		c.Val = val65
	}
	return c
}

// answer does a call.
func (r *maker) answer(x *worker) api.Reply {
	c := x.call
	if e := wrong(c, x.open); e != api.OK {
		return code(e)
	}
	if r.Intn(400) == 0 {
		x.dead = true
		return code(says[r.Intn(len(says))])
	}
	switch {
	case c.Kind == api.CBegin && r.Intn(20) == 0:
		return code(api.ErrTxnFull)
	case c.Kind == api.CBegin:
		x.open, x.deal, x.calls, x.said = true, r.table.deal(), nil, nil
		return ok
	case c.Kind >= api.CCheckpoint:
		return api.Reply{Code: api.Errno(r.Intn(3)), N: r.Intn(3)}
	case r.Intn(30) == 0:
		x.open = false
		return code(aborting[r.Intn(4)])
	case c.Kind == api.CAbort:
		x.open = false
		return ok
	case c.Kind == api.CCommit:
		return r.commit(x)
	}
	reply := x.deal.do(c)
	x.open = reply.Code != api.ErrTxnFull
	x.calls, x.said = append(x.calls, c), append(x.said, reply)
	return reply
}

func (r *maker) commit(x *worker) api.Reply {
	x.open = false
	again := r.table.deal()
	for i, c := range x.calls {
		if !sameReply(again.do(c), x.said[i]) {
			return code(api.ErrTxnConflict)
		}
	}
	r.time += 1 + int64(r.Intn(2)*r.Intn(5))
	r.table = again.now
	return at(r.time)
}

// history is of so many calls; most of a few workers.
func (r *maker) history(n int) plain {
	few := 1 + r.Intn(16)
	for len(r.l) < n {
		w := r.Intn(few)
		x := &r.workers[w]
		switch {
		case x.dead && !x.under:
			n--
		case !x.under:
			x.under, x.begun, x.call = true, r.now, r.ask()
			x.reply = r.answer(x)
			r.now += r.Intn(2)
		default:
			r.now++
			r.l = append(r.l, done(w, x.begun, r.now, x.call, x.reply))
			x.under = false
		}
	}
	return plain{r.rows, r.l}
}

// spoil changes one thing.
func (r *maker) spoil(p plain) plain {
	l, rows := slices.Clone(p.l), slices.Clone(p.rows)
	for i := range l {
		l[i].Reply.Rows = slices.Clone(l[i].Reply.Rows)
	}
	i, j := r.Intn(len(l)), r.Intn(len(l))
	switch r.Intn(16) {
	case 0:
		r.spoilForm(&l[i])
	case 1:
		l = slices.Delete(l, i, i+1)
	case 2:
		l[i].Call, l[j].Call = l[j].Call, l[i].Call
	case 3:
		l[i].Reply, l[j].Reply = l[j].Reply, l[i].Reply
	case 4:
		l[i].W = r.Intn(16)
	case 5:
		l[i].Begun = r.Intn(l[i].Ended)
	case 6:
		l[i].Call = r.ask()
	case 7, 8, 9:
		r.spoilTimes(l)
	case 10:
		if len(rows) > 0 {
			rows = r.spoilRows(rows)
		}
	case 11:
		r.spoilReply(&l[i].Reply)
	default: // what was read
		for k := range l {
			if d := &l[(i+k)%len(l)]; d.Call.Kind >= api.CGet && d.Call.Kind <= api.CDelete {
				r.spoilRead(&d.Reply)
				break
			}
		}
	}
	return plain{rows, l}
}

// spoilTimes lets two commits have one another's Times, or nearly, or one another Time.
func (r *maker) spoilTimes(l []api.Done) {
	var list []*api.Reply
	for i := range l {
		if l[i].Reply.Time > 0 {
			list = append(list, &l[i].Reply)
		}
	}
	if len(list) == 0 {
		return
	}
	a, b := list[r.Intn(len(list))], list[r.Intn(len(list))]
	switch r.Intn(4) {
	case 0:
		a.Time, b.Time = b.Time, a.Time
	case 1:
		a.Time, b.Time = b.Time, a.Time+int64(r.Intn(3)-1)
	case 2:
		a.Time += int64(r.Intn(9) - 4)
	case 3:
		a.Time = []int64{math.MinInt64, -1, 0, 1, lastTime, lastTime + 1, math.MaxInt64}[r.Intn(7)]
	}
}

func (r *maker) spoilForm(d *api.Done) {
	numbers := []int{-1, 0, 1, 15, 16, math.MaxInt, math.MinInt}
	switch n := numbers[r.Intn(len(numbers))]; r.Intn(3) {
	case 0:
		d.W = n
	case 1:
		d.Begun = n
	case 2:
		d.Ended = n
	}
}

func (r *maker) spoilRows(rows []api.Row) []api.Row {
	i := r.Intn(len(rows))
	switch r.Intn(6) {
	case 0:
		return slices.Delete(rows, i, i+1)
	case 1:
		rows[i].Val += "z"
	case 2:
		rows[i].Key = r.key()
	case 3:
		rows[i].Time = int64(r.Intn(20) - 1)
	case 4:
		rows[i].Time = lastTime + int64(r.Intn(3)-1)
	case 5:
		rows[i].Val = val65
	}
	return rows
}

func (r *maker) spoilReply(p *api.Reply) {
	switch r.Intn(6) {
	case 0:
		p.Code = api.Errno(r.Intn(250))
	case 1:
		p.Code = append(append(aborting, says...), api.OK)[r.Intn(12)]
	case 2:
		p.Val += "z"
	case 3:
		p.Found = !p.Found
	case 4:
		p.Time += int64(r.Intn(5) - 2)
	case 5:
		p.N++
	}
}

func (r *maker) spoilRead(p *api.Reply) {
	switch n := len(p.Rows); {
	case n > 0 && r.Intn(2) == 0:
		p.Rows = slices.Delete(p.Rows, n-1, n)
	case n > 0:
		p.Rows[r.Intn(n)].Val = strconv.Itoa(r.Intn(3))
	case p.Found:
		p.Val = strconv.Itoa(r.Intn(3))
	case p.Code == api.OK:
		p.Code = []api.Errno{api.ErrTxnHas, api.ErrTxnMissing}[r.Intn(2)]
	default:
		p.Code = api.OK
	}
}

// agrees holds what is said of a history against what a plainer one says.
func (p plain) agrees(t *testing.T) verdict {
	t.Helper()
	want, list := p.judge()
	checks(t, p.rows, p.l, want.at, want.code)
	if want.code == api.OK {
		commits(t, p.rows, p.l, list...)
	}
	var times []int64
	for _, d := range p.l {
		if d.Call.Kind == api.CCommit && d.Reply.Code == api.OK {
			times = append(times, d.Reply.Time)
		}
	}
	if _, is := (plain{nil, p.l}).formed(); is {
		orders(t, p.l, api.OK, times...)
	} else {
		orders(t, p.l, api.ErrHistForm)
	}
	return want
}

// P19.1 to P19.3: histories at random, right ones, and such with one or two things that were changed.
func TestAgainstPlainer(t *testing.T) {
	rules := map[int]int{}
	for seed := range 3000 {
		r := newMaker(seed, []int{2, 3, 6, 20}[seed%4])
		p := r.history(4 + r.Intn(80))
		if v := p.agrees(t); v.code != api.OK {
			t.Fatalf("seed %d: what was made is not right: %v", seed, v)
		}
		for range 6 {
			q := r.spoil(p)
			if r.Intn(4) == 0 && len(q.l) > 0 {
				q = r.spoil(q)
			}
			rules[q.agrees(t).rule]++
		}
	}
	for rule := range 6 {
		if rules[rule] < 300 {
			t.Errorf("line %d was told only %d times", rule, rules[rule])
		}
	}
	t.Log(rules)
}

// P19.1, R4: the same is said again.
func TestTheSameAgain(t *testing.T) {
	for seed := range 100 {
		r := newMaker(seed, 4)
		p := r.spoil(r.history(50))
		place, e := hist.Check(p.rows, p.l)
		checks(t, p.rows, p.l, place, e)
	}
}

// change is a call that reads or writes and may be.
func (r *maker) change(kinds ...int) api.Call {
	return api.Call{Kind: kinds[r.Intn(len(kinds))], Key: name(r.Intn(r.keys)), High: name(r.Intn(2 * r.keys)), Val: strconv.Itoa(r.Intn(3))}
}

// chain is commits of worker 0, and the tables ahead of, between and behind them.
func (r *maker) chain(n int) ([][]any, []table) {
	var list [][]any
	tables := []table{r.table}
	for range n {
		d := tables[len(tables)-1].deal()
		calls := []any{begin, ok}
		for range r.Intn(4) {
			c := r.change(api.CInsert, api.CUpdate, api.CDelete)
			calls = append(calls, c, d.do(c))
		}
		r.time += 1 + int64(r.Intn(3))
		list = append(list, append(calls, commit, at(r.time)))
		tables = append(tables, d.now)
	}
	return list, tables
}

// guess is a transaction of which each call is answered by one of two tables, with what it has written itself.
func (r *maker) guess(x, y table) []any {
	list := []any{begin, ok}
	own := map[string]*string{}
	seen := func(t table) table {
		t = maps.Clone(t)
		for key, val := range own {
			if delete(t, key); val != nil {
				t[key] = *val
			}
		}
		return t
	}
	for range 1 + r.Intn(6) {
		c := r.change(api.CGet, api.CGet, api.CScan, api.CScan, api.CInsert, api.CUpdate, api.CDelete)
		now := x
		if r.Intn(6) == 0 {
			now = y
		}
		d := seen(now).deal()
		reply := d.do(c)
		if r.Intn(60) == 0 && len(reply.Rows) > 1 {
			slices.Reverse(reply.Rows)
		}
		if r.Intn(60) == 0 {
			reply.N++
		}
		if c.Kind >= api.CInsert && reply.Code == api.OK {
			if own[c.Key] = nil; c.Kind != api.CDelete {
				own[c.Key] = &c.Val
			}
		}
		list = append(list, c, reply)
	}
	return list
}

// P19.1.5: transactions that read by whichever rows of a chain of commits, ahead of them and behind, or by two of them.
func TestGuessesAgainstPlainer(t *testing.T) {
	rules := map[int]int{}
	for seed := range 6000 {
		r := newMaker(seed, 2+seed%5)
		chain, tables := r.chain(1 + r.Intn(12))
		lists := [][][]any{chain}
		for range 1 + r.Intn(2) {
			lists = append(lists, [][]any{r.guess(tables[r.Intn(len(tables))], tables[r.Intn(len(tables))])})
		}
		var h teller
		for {
			w := r.Intn(len(lists))
			if r.Intn(3) > 0 {
				w = 0 // so that it is sometimes far behind
			}
			for w < len(lists) && len(lists[w]) == 0 {
				w++
			}
			if w == len(lists) {
				break
			}
			next := lists[w][0]
			h.does(w, next[0].(api.Call), next[1].(api.Reply))
			if lists[w][0] = next[2:]; len(next) == 2 {
				lists[w] = lists[w][1:]
			}
		}
		rules[(plain{r.rows, h.l}).agrees(t).rule]++
	}
	if rules[0] < 1500 || rules[5] < 1500 || len(rules) != 2 {
		t.Error(rules)
	}
}
