package hist_test

import (
	"math"
	"slices"
	"strconv"
	"strings"
	"testing"

	"varve/api"
	"varve/hist"
)

const lastTime = 1<<40 - 1

var (
	key16 = strings.Repeat("k", 16)
	key17 = strings.Repeat("k", 17)
	val64 = strings.Repeat("v", 64)
	val65 = strings.Repeat("v", 65)
)

// Calls, as they are asked for most.
var (
	begin  = api.Call{Kind: api.CBegin, Mode: api.Optimistic}
	commit = api.Call{Kind: api.CCommit}
	abort  = api.Call{Kind: api.CAbort}
	sweep  = api.Call{Kind: api.CSweep}
	all    = scan("", "")
)

func get(key string) api.Call { return api.Call{Kind: api.CGet, Key: key} }

func scan(key, high string) api.Call { return api.Call{Kind: api.CScan, Key: key, High: high} }

func insert(key, val string) api.Call { return api.Call{Kind: api.CInsert, Key: key, Val: val} }

func update(key, val string) api.Call { return api.Call{Kind: api.CUpdate, Key: key, Val: val} }

func remove(key string) api.Call { return api.Call{Kind: api.CDelete, Key: key} }

func of(kind int) api.Call { return api.Call{Kind: kind} }

func row(key, val string, time int64) api.Row { return api.Row{Key: key, Val: val, Time: time} }

func put(key, val string) api.Write { return api.Write{Key: key, Val: val} }

func gone(key string) api.Write { return api.Write{Key: key, Gone: true} }

func writes(time int64, list ...api.Write) api.Commit { return api.Commit{Time: time, Writes: list} }

// What calls are answered.
var ok, none = api.Reply{}, api.Reply{}

func code(e api.Errno) api.Reply { return api.Reply{Code: e} }

func found(val string) api.Reply { return api.Reply{Found: true, Val: val} }

func at(time int64) api.Reply { return api.Reply{Time: time} }

// rowsOf are rows of keys and values in turn, without timestamps.
func rowsOf(texts ...string) api.Reply {
	var rows []api.Row
	for i := 0; i+1 < len(texts); i += 2 {
		rows = append(rows, row(texts[i], texts[i+1], 0))
	}
	return api.Reply{Rows: rows}
}

// name is a key; they rise.
func name(i int) string { return strconv.Itoa(10000 + i) }

// many are n rows, at 10.
func many(n int) []api.Row {
	var rows []api.Row
	for i := range n {
		rows = append(rows, row(name(i), strconv.Itoa(i), 10))
	}
	return rows
}

// teller tells a history, a moment for each begin and each answer of a call.
type teller struct {
	l     []api.Done
	now   int
	begun [16]int // by worker, of a call that has begun and was not answered
}

// starts lets workers begin a call, which is answered later.
func (h *teller) starts(workers ...int) {
	for _, w := range workers {
		h.now++
		h.begun[w] = h.now
	}
}

// does tells a call and what it was answered; it has begun now, or when it was let begin.
func (h *teller) does(w int, c api.Call, r api.Reply) {
	if h.begun[w] == 0 {
		h.starts(w)
	}
	h.now++
	h.l = append(h.l, api.Done{W: w, Begun: h.begun[w], Ended: h.now, Call: c, Reply: r})
	h.begun[w] = 0
}

// fine tells calls that were answered OK and nothing else.
func (h *teller) fine(w int, calls ...api.Call) {
	for _, c := range calls {
		h.does(w, c, ok)
	}
}

// one tells a history of one worker's calls and their replies in turn.
func one(w int, list ...any) []api.Done {
	var h teller
	for i := 0; i < len(list); i += 2 {
		h.does(w, list[i].(api.Call), list[i+1].(api.Reply))
	}
	return h.l
}

func checks(t *testing.T, rows []api.Row, l []api.Done, place int, want api.Errno) {
	t.Helper()
	if at, e := hist.Check(rows, l); at != place || e != want {
		t.Fatalf("Check(%v, %v): %d %v, not %d %v", rows, l, at, e, place, want)
	}
	list, e := hist.Commits(rows, l)
	if e != want || e != api.OK && len(list) > 0 {
		t.Fatalf("Commits(%v, %v): %v %v, not %v", rows, l, list, e, want)
	}
}

func right(t *testing.T, rows []api.Row, l []api.Done) {
	t.Helper()
	checks(t, rows, l, 0, api.OK)
}

func sameCommit(a, b api.Commit) bool { return a.Time == b.Time && slices.Equal(a.Writes, b.Writes) }

// commits holds what is told as committed against what should be.
func commits(t *testing.T, rows []api.Row, l []api.Done, want ...api.Commit) {
	t.Helper()
	right(t, rows, l)
	if got, e := hist.Commits(rows, l); e != api.OK || !slices.EqualFunc(got, want, sameCommit) {
		t.Fatalf("Commits(%v, %v): %v %v, not %v", rows, l, got, e, want)
	}
}

// orders holds the order of timestamps against what it should be; a history that is not formed has none.
func orders(t *testing.T, l []api.Done, want api.Errno, times ...int64) {
	t.Helper()
	if got, e := hist.Order(l); e != want || !slices.Equal(got, times) {
		t.Fatalf("Order(%v): %v %v, not %v %v", l, got, e, times, want)
	}
}

// done is one Done, with its moments.
func done(w, begun, ended int, c api.Call, r api.Reply) api.Done {
	return api.Done{W: w, Begun: begun, Ended: ended, Call: c, Reply: r}
}

// The chapter's table.
func TestExamples(t *testing.T) {
	rows := []api.Row{row("a", "x", 3)}
	first := func() []api.Done {
		return []api.Done{done(0, 1, 2, begin, ok), done(0, 3, 4, get("a"), found("x")), done(0, 5, 6, commit, at(4))}
	}
	right(t, rows, first())
	l := first()
	l[1].Reply.Val = "y"
	checks(t, rows, l, 1, api.ErrHistRead)
	l = first()
	l[2].Reply.Time = 3
	checks(t, rows, l, 2, api.ErrHistOrder)
	l = first()
	l[2].Begun = 3
	checks(t, rows, l, 2, api.ErrHistForm)

	insertion := []api.Done{done(0, 1, 2, begin, ok), done(0, 3, 4, insert("a", "p"), ok), done(0, 5, 6, commit, at(7))}
	checks(t, nil, append(insertion, done(1, 7, 8, begin, ok), done(1, 9, 10, get("a"), none), done(1, 11, 12, abort, ok)), 3, api.ErrHistRead)
	right(t, nil, []api.Done{
		done(1, 1, 2, begin, ok),
		done(0, 3, 4, begin, ok), done(0, 5, 6, insert("a", "p"), ok), done(0, 7, 8, commit, at(7)),
		done(1, 9, 10, get("a"), none), done(1, 11, 12, abort, ok),
	})
}

// Errors: their numbers.
func TestErrorsNumbers(t *testing.T) {
	if list := []api.Errno{api.ErrHistForm, api.ErrHistOrder, api.ErrHistRead}; !slices.Equal(list, []api.Errno{190, 191, 192}) {
		t.Error(list)
	}
}

// P19.1 to P19.3: nothing at all is a history.
func TestNothing(t *testing.T) {
	for _, rows := range [][]api.Row{nil, {}, {row("a", "x", 0)}, many(4096)} {
		for _, l := range [][]api.Done{nil, {}} {
			commits(t, rows, l)
			orders(t, l, api.OK)
		}
	}
}

// fits tells a history of two workers: six calls, none of which is wrong.
func fits() []api.Done {
	return []api.Done{
		done(3, 0, 2, begin, ok), done(5, 1, 3, begin, ok), done(3, 2, 7, insert("b", "1"), ok),
		done(5, 7, 8, get("b"), none), done(5, 8, 10, abort, ok), done(3, 9, math.MaxInt, commit, at(4)),
	}
}

// P19.1.1, P19.3: moments that may be: from 0 on, and a call may begin at the moment when the one ahead of it was answered.
func TestFormed(t *testing.T) {
	commits(t, nil, fits(), writes(4, put("b", "1")))
	orders(t, fits(), api.OK, 4)
	var h teller
	for w := range 16 {
		h.fine(w, begin)
	}
	for w := range 16 {
		h.fine(w, abort)
	}
	right(t, nil, h.l)
}

// P19.1.1: the first Done with which it is not formed, whatever is wrong with it; P19.3: likewise.
func TestNotFormed(t *testing.T) {
	for place, changes := range map[int][]func(d *api.Done){
		0: {
			func(d *api.Done) { d.Begun = 2 }, func(d *api.Done) { d.Begun = 3 }, func(d *api.Done) { d.Ended = 0 }, func(d *api.Done) { d.Begun, d.Ended = -2, -1 },
			func(d *api.Done) { d.Begun, d.Ended = 0, -1 }, func(d *api.Done) { d.Begun = math.MaxInt },
		},
		1: {
			func(d *api.Done) { d.Begun = 3 }, func(d *api.Done) { d.Begun = 4 }, func(d *api.Done) { d.Ended = 2 }, func(d *api.Done) { d.Begun, d.Ended = 0, 1 },
		},
		3: {
			func(d *api.Done) { d.Begun = 2 }, func(d *api.Done) { d.Begun = 0 }, func(d *api.Done) { d.Ended = 7 },
			func(d *api.Done) { d.Ended = math.MinInt }, func(d *api.Done) { d.Begun = 8 }, func(d *api.Done) { d.W = 3; d.Begun = 6 },
		},
		5: {
			func(d *api.Done) { d.Begun = 6 }, func(d *api.Done) { d.Ended = 10 }, func(d *api.Done) { d.Ended = 9; d.Begun = 8 }, func(d *api.Done) { d.Begun = math.MaxInt },
			func(d *api.Done) { d.W = 5 },
		},
	} {
		changes = append(changes, func(d *api.Done) { d.Begun = -1 }, func(d *api.Done) { d.Begun = math.MinInt })
		for _, w := range []int{-1, 16, 17, math.MinInt, math.MaxInt, 1 << 32} {
			changes = append(changes, func(d *api.Done) { d.W = w })
		}
		for _, change := range changes {
			l := fits()
			change(&l[place])
			checks(t, nil, l, place, api.ErrHistForm)
			orders(t, l, api.ErrHistForm)
			l = append(l, done(-1, 5, 4, begin, ok)) // the first one is told
			checks(t, nil, l, place, api.ErrHistForm)
			// A reply that may not be, ahead of it, is not what is told.
			l[0].Reply.Val = "x"
			checks(t, nil, l, place, api.ErrHistForm)
		}
	}
}

// P19.1.1: rows that may not be, or do not rise, whatever else is wrong.
func TestRowsNotFormed(t *testing.T) {
	a, b, c := row("a", "x", 1), row("b", "x", 2), row("c", "x", 3)
	lists := [][]api.Row{{a, a}, {b, a}, {a, b, b}, {a, c, b}, {row("a\x00", "", 1), row("a", "", 1)}, {row("a", "", 1), row("B", "", 1)}, many(4097), append(many(4000), many(97)...)}
	for _, wrong := range []api.Row{
		row("", "x", 1), row(key17, "x", 1), row("m", val65, 1), row("m", "x", -1), row("m", "x", lastTime+1), row("m", "x", math.MinInt64), row("m", "x", math.MaxInt64),
	} {
		lists = append(lists, []api.Row{wrong}, []api.Row{a, wrong}, []api.Row{wrong, row("z", "x", 1)})
	}
	for _, rows := range lists {
		checks(t, rows, nil, 0, api.ErrHistForm)
		checks(t, rows, fits(), 0, api.ErrHistForm)
		l := fits()
		l[4].W = 99
		checks(t, rows, l, 0, api.ErrHistForm)
		l[0].Reply.Val = "x"
		checks(t, rows, l, 0, api.ErrHistForm)
	}
	right(t, many(4096), one(0, begin, ok, get(name(4095)), found("4095"), commit, at(11)))
	right(t, []api.Row{row("\x00", "\xff", 0), row(key16, val64, 3), row("\xff", "", 2)}, fits())
}

// P19.1.1, P19.3: how many Dones there may be.
func TestManyDones(t *testing.T) {
	var h teller
	for range 2048 {
		h.fine(1, begin, abort)
	}
	right(t, nil, h.l)
	orders(t, h.l, api.OK)
	h.fine(0, sweep)
	checks(t, nil, h.l, 0, api.ErrHistForm)
	orders(t, h.l, api.ErrHistForm)
	h.l[77].W = 16
	checks(t, nil, h.l, 0, api.ErrHistForm)
}

var says = []api.Errno{20, 21, 22, 23, 24, 80, 81}

// P19.1.1: behind what says nothing its worker is answered nothing more, though others are.
func TestSaysNothing(t *testing.T) {
	for e := range api.Errno(300) {
		for _, c := range []api.Call{begin, get("a"), commit, sweep, of(99)} {
			var h teller
			h.fine(2, begin)
			h.does(2, c, code(e))
			h.fine(1, begin, abort)
			h.does(2, sweep, code(api.ErrTxnOpen))
			_, got := hist.Order(h.l)
			if want := slices.Contains(says, e); (got == api.ErrHistForm) != want {
				t.Fatal(c, e, got)
			}
			if slices.Contains(says, e) {
				checks(t, nil, h.l, 4, api.ErrHistForm)
				right(t, nil, h.l[:4])
			}
		}
	}
	for _, e := range says {
		checks(t, nil, one(7, sweep, code(e), begin, ok), 1, api.ErrHistForm)
		checks(t, nil, one(7, begin, code(e), begin, ok), 1, api.ErrHistForm)
		// Also if other fields are not zero.
		checks(t, nil, one(7, begin, api.Reply{Code: e, Val: "x"}, begin, ok), 1, api.ErrHistForm)
		checks(t, nil, one(7, begin, api.Reply{Code: e, Val: "x"}), 0, api.ErrHistRead)
	}
}

// with are replies of a code, with another field that is not zero.
func with(e api.Errno) []api.Reply {
	return []api.Reply{{Code: e, Val: "x"}, {Code: e, Found: true}, {Code: e, Rows: []api.Row{{}}}, {Code: e, Time: 1}, {Code: e, Time: -1}, {Code: e, N: 1}, {Code: e, N: -1}}
}

// asked is a call, with the codes that it may be answered without a transaction, and with one: what says nothing may always be.
type asked struct {
	call     api.Call
	out, in  []api.Errno
	anything bool // without a transaction
}

var aborting = []api.Errno{api.ErrTxnConflict, api.ErrTxnDeadlock, api.ErrTxnFull, api.ErrTxnTime}

func replies() []asked {
	list := func(e ...api.Errno) []api.Errno { return e }
	no, is := list(api.ErrTxnNone), list(api.ErrTxnOpen)
	badCall, badKey, badVal := list(api.ErrTxnCall), list(api.ErrTxnKey), list(api.ErrTxnValue)
	free := list(api.OK, api.ErrTxnFull)
	return []asked{
		{call: of(0), out: badCall, in: badCall}, {call: of(12), out: badCall, in: badCall}, {call: of(-1), out: badCall, in: badCall},
		{call: of(math.MaxInt), out: badCall, in: badCall}, {call: of(math.MinInt), out: badCall, in: badCall}, {call: of(1<<32 + 1), out: badCall, in: badCall},
		{call: begin, out: free, in: is}, {call: api.Call{Kind: 1, Mode: 2}, out: free, in: is},
		{call: api.Call{Kind: 1, Mode: 2, Key: key17, High: key17, Val: val65, Draw: -1, N: -1}, out: free, in: is},
		{call: of(1), out: badCall, in: is}, {call: api.Call{Kind: 1, Mode: 3}, out: badCall, in: is}, {call: api.Call{Kind: 1, Mode: -1}, out: badCall, in: is},
		{call: get(""), out: no, in: badKey}, {call: get(key17), out: no, in: badKey},
		{call: scan(key17, ""), out: no, in: badKey}, {call: scan("", key17), out: no, in: badKey},
		{call: insert("", val65), out: no, in: badKey}, {call: insert(key17, ""), out: no, in: badKey}, {call: insert("a", val65), out: no, in: badVal},
		{call: update("", ""), out: no, in: badKey}, {call: update(key17, val65), out: no, in: badKey}, {call: update("b", val65), out: no, in: badVal},
		{call: remove(""), out: no, in: badKey}, {call: remove(key17), out: no, in: badKey},
		{call: api.Call{Kind: api.CDelete, Key: key17, Val: val65}, out: no, in: badKey},
		{call: get("a"), out: no}, {call: all, out: no}, {call: insert("b", ""), out: no}, {call: update("a", ""), out: no}, {call: remove("a"), out: no},
		{call: abort, out: no, in: append(list(api.OK), aborting...)},
		{call: commit, out: no, in: append(list(api.OK), aborting...)},
		{call: of(api.CCheckpoint), in: is, anything: true}, {call: api.Call{Kind: api.CMerge, N: -7, Key: key17}, in: is, anything: true}, {call: sweep, in: is, anything: true},
	}
}

// P19.1.2: of each call each code, with a transaction and without, and each further field.
func TestReplies(t *testing.T) {
	rows := []api.Row{row("a", "x", 3)}
	for _, c := range replies() {
		for e := range api.Errno(300) {
			mute := slices.Contains(says, e)
			if may := c.anything || mute || slices.Contains(c.out, e); may {
				right(t, rows, one(4, c.call, code(e)))
			} else {
				checks(t, rows, one(4, c.call, code(e)), 0, api.ErrHistRead)
			}
			for _, r := range with(e) {
				if c.anything {
					right(t, rows, one(4, c.call, r))
				} else {
					checks(t, rows, one(4, c.call, r), 0, api.ErrHistRead)
				}
			}
			if c.in == nil {
				continue
			}
			may := mute || slices.Contains(c.in, e)
			reply := code(e)
			if c.call.Kind == api.CCommit && e == api.OK {
				reply = at(9)
			}
			if l := one(4, begin, ok, c.call, reply); may {
				right(t, rows, l)
			} else {
				checks(t, rows, l, 1, api.ErrHistRead)
			}
			for _, r := range with(e) {
				if c.call.Kind == api.CCommit && e == api.OK && r.Time != 0 {
					continue
				}
				checks(t, rows, one(4, begin, ok, c.call, r), 1, api.ErrHistRead)
			}
		}
	}
	for _, e := range []api.Errno{-1, math.MinInt, math.MaxInt, 1 << 32, 1<<32 + 158} {
		right(t, rows, one(4, sweep, code(e)))
		checks(t, rows, one(4, begin, code(e)), 0, api.ErrHistRead)
		checks(t, rows, one(4, begin, ok, abort, code(e)), 1, api.ErrHistRead)
		checks(t, rows, one(4, begin, ok, commit, code(e)), 1, api.ErrHistRead)
	}
}

// P19.1.2: what aborts, and what says nothing, may be the answer of a call that reads or writes, and nothing is told beside it.
func TestAbortingReplies(t *testing.T) {
	for _, c := range []api.Call{get("a"), all, insert("b", "y"), insert("a", "y"), update("a", "y"), update("b", "y"), remove("a"), remove("b")} {
		for _, e := range append(aborting, says...) {
			right(t, []api.Row{row("a", "x", 3)}, one(4, begin, ok, c, code(e)))
			for _, r := range with(e) {
				checks(t, []api.Row{row("a", "x", 3)}, one(4, begin, ok, c, r), 1, api.ErrHistRead)
			}
		}
	}
}

// P19.1.2: whether a worker has a transaction, behind each way to have none.
func TestHasTransaction(t *testing.T) {
	rows := []api.Row{row("a", "x", 3)}
	is := func(open bool, list ...any) {
		t.Helper()
		l := one(6, append(list, sweep, code(api.ErrTxnOpen))...)
		if open {
			right(t, rows, l)
			right(t, rows, one(6, append(list, abort, ok)...))
			checks(t, rows, one(6, append(list, abort, code(api.ErrTxnNone))...), len(l)-1, api.ErrHistRead)
			checks(t, rows, one(6, append(list, begin, ok)...), len(l)-1, api.ErrHistRead)
			return
		}
		right(t, rows, one(6, append(list, abort, code(api.ErrTxnNone))...))
		right(t, rows, one(6, append(list, begin, ok)...))
		checks(t, rows, one(6, append(list, abort, ok)...), len(l)-1, api.ErrHistRead)
		checks(t, rows, one(6, append(list, begin, code(api.ErrTxnOpen))...), len(l)-1, api.ErrHistRead)
	}
	is(false)
	is(true, begin, ok)
	is(false, begin, code(api.ErrTxnFull))
	is(false, of(1), code(api.ErrTxnCall))
	is(true, begin, ok, begin, code(api.ErrTxnOpen), of(12), code(api.ErrTxnCall), get(""), code(api.ErrTxnKey), get("a"), found("x"), remove("b"), code(api.ErrTxnMissing), insert("a", ""), code(api.ErrTxnHas))
	is(false, begin, ok, commit, at(4))
	is(false, begin, ok, abort, ok)
	is(true, begin, ok, abort, ok, begin, ok)
	is(false, begin, ok, abort, ok, abort, code(api.ErrTxnNone))
	for _, e := range aborting {
		is(false, sweep, code(e))
		for _, c := range []api.Call{get("a"), all, insert("b", "y"), update("a", "y"), remove("a"), commit, abort} {
			is(false, begin, ok, c, code(e))
			is(true, begin, ok, c, code(e), begin, ok)
		}
	}
}

// P19.1.2: of several replies that may not be the first one; they go ahead of timestamps and reads.
func TestFirstReply(t *testing.T) {
	l := one(0, begin, ok, get("a"), found("z"), commit, at(-5), commit, ok, begin, code(api.ErrTxnOpen))
	checks(t, nil, l, 3, api.ErrHistRead)
	l[3].Reply = code(api.ErrTxnNone)
	checks(t, nil, l, 4, api.ErrHistRead)
	l[4].Reply = ok
	checks(t, nil, l, 2, api.ErrHistOrder)
	l[2].Reply.Time = 5
	checks(t, nil, l, 1, api.ErrHistRead)
	l[1].Reply = none
	right(t, nil, l)
}

// P19.1.3: above the greatest timestamp of the rows, and below MaxTime.
func TestCommitTimes(t *testing.T) {
	for _, c := range []struct {
		rows []api.Row
		from int64
	}{
		{nil, 1}, {[]api.Row{row("a", "x", 0)}, 1}, {[]api.Row{row("a", "x", 1)}, 2}, {[]api.Row{row("a", "x", 7), row("b", "x", 9), row("c", "x", 8)}, 10},
		{[]api.Row{row("a", "x", lastTime-1)}, lastTime}, {[]api.Row{row("a", "x", lastTime)}, lastTime + 1},
	} {
		for _, time := range []int64{math.MinInt64, -1, 0, 1, 2, c.from - 2, c.from - 1, c.from, c.from + 1, 1 << 39, lastTime, lastTime + 1, lastTime + 2, math.MaxInt64} {
			l := one(0, begin, ok, commit, at(time))
			orders(t, l, api.OK, time)
			if time >= c.from && time <= lastTime {
				commits(t, c.rows, l, writes(time))
			} else {
				checks(t, c.rows, l, 1, api.ErrHistOrder)
			}
		}
	}
}

// P19.1.3: no Time twice, whether the two were one behind the other or at once.
func TestTimesTwice(t *testing.T) {
	var h teller
	for w := range 3 {
		h.fine(w, begin)
	}
	h.does(0, commit, at(5))
	h.does(1, commit, at(4)) // they were at once
	h.does(2, commit, at(5))
	checks(t, nil, h.l, 5, api.ErrHistOrder)
	h.l[4].Reply.Time = 5
	checks(t, nil, h.l, 4, api.ErrHistOrder)
	h.l[3].Reply.Time = 6
	h.l[4].Reply.Time = 4
	commits(t, nil, h.l, writes(4), writes(5), writes(6))
	orders(t, h.l, api.OK, 6, 4, 5)
}

// P19.1.3: one that was answered ahead of another one's begin has the lesser Time; at the same moment, too, and though one with a lesser Time was answered between.
func TestTimesAgainstTime(t *testing.T) {
	// 0: from 1 to 6 with Time 10; 1: from 2 to 8 with Time 3; 2: begun at begun.
	history := func(begun int, time int64) []api.Done {
		return []api.Done{
			done(0, 1, 3, begin, ok), done(1, 2, 4, begin, ok), done(0, 5, 6, commit, at(10)), done(1, 7, 8, commit, at(3)),
			done(2, begun, 20, begin, ok), done(2, 21, 22, commit, at(time)),
		}
	}
	for _, begun := range []int{0, 1, 5, 6, 7, 8, 9, 19} {
		for _, time := range []int64{1, 2, 3, 4, 9, 10, 11, 30} {
			switch {
			case time == 3 || time == 10 || begun >= 6 && time < 10 || begun >= 8 && time < 3:
				checks(t, nil, history(begun, time), 5, api.ErrHistOrder)
			default:
				right(t, nil, history(begun, time))
			}
		}
	}
	// Its CBegin's begin counts, and not that of another call of it.
	right(t, nil, []api.Done{done(0, 1, 2, begin, ok), done(1, 1, 3, begin, ok), done(0, 4, 5, commit, at(10)), done(1, 8, 9, get("a"), none), done(1, 9, 10, commit, at(3))})
	// Of the same worker likewise.
	checks(t, nil, one(0, begin, ok, commit, at(10), begin, ok, commit, at(9)), 3, api.ErrHistOrder)
	right(t, nil, one(0, begin, ok, commit, at(10), begin, ok, commit, at(11)))
	// The first one is told, though another one is the first by its Time.
	checks(t, nil, one(0, begin, ok, commit, at(10), begin, ok, commit, at(9), begin, ok, commit, at(2), begin, ok, commit, at(-1)), 3, api.ErrHistOrder)
	// Aborted ones have none.
	right(t, nil, one(0, begin, ok, commit, at(10), begin, ok, commit, code(api.ErrTxnConflict), begin, ok, commit, at(11)))
}

// answers are calls, with what they are answered by a x, b y at first, one behind the other.
func answers() []any {
	return []any{
		get("a"), found("x"), get("c"), none, all, rowsOf("a", "x", "b", "y"), scan("b", ""), rowsOf("b", "y"), scan("", "b"), rowsOf("a", "x"), scan("c", ""), none,
		insert("a", "1"), code(api.ErrTxnHas), insert("c", "2"), ok, update("c", "3"), ok, update("d", "4"), code(api.ErrTxnMissing), remove("d"), code(api.ErrTxnMissing),
		get("c"), found("3"), remove("a"), ok, get("a"), none, update("b", ""), ok, get("b"), found(""), all, rowsOf("b", "", "c", "3"), scan("b", "c"), rowsOf("b", ""),
		remove("c"), ok, insert("a", "5"), ok, all, rowsOf("a", "5", "b", ""),
	}
}

// P19.1.4: of a committed transaction's calls the first one that is answered otherwise; each field counts.
func TestCommittedReads(t *testing.T) {
	rows := []api.Row{row("a", "x", 3), row("b", "y", 2)}
	list := append(append([]any{begin, ok}, answers()...), commit, at(9))
	commits(t, rows, one(0, list...), writes(9, put("a", "5"), put("b", "")))
	for i := 2; i < len(list)-2; i += 2 {
		was := list[i+1].(api.Reply)
		wrong := []api.Reply{
			{Code: was.Code, Val: was.Val + "z", Found: was.Found, Rows: was.Rows}, {Code: was.Code, Val: was.Val, Found: !was.Found, Rows: was.Rows},
			{Code: was.Code, Val: was.Val, Found: was.Found, Rows: append(slices.Clone(was.Rows), row("z", "", 0))},
			{Code: was.Code, Val: was.Val, Found: was.Found, Rows: append([]api.Row{row("A", "", 0)}, was.Rows...)},
			{Code: was.Code, Val: was.Val, Found: was.Found, Rows: was.Rows, Time: 9}, {Code: was.Code, Val: was.Val, Found: was.Found, Rows: was.Rows, N: 1},
		}
		for _, e := range []api.Errno{0, 1, -1, 150, 151, 152, 153, 154, 155, 156, 157, 190, 210} {
			if e != was.Code {
				wrong = append(wrong, api.Reply{Code: e, Val: was.Val, Found: was.Found, Rows: was.Rows})
			}
		}
		if n := len(was.Rows); n > 0 {
			other := slices.Clone(was.Rows)
			other[n-1].Time = 2
			more := slices.Clone(was.Rows)
			more[n-1].Val += "z"
			turned := slices.Clone(was.Rows)
			slices.Reverse(turned)
			wrong = append(wrong, api.Reply{Rows: other}, api.Reply{Rows: more}, api.Reply{Rows: was.Rows[1:]}, api.Reply{Rows: was.Rows[:n-1]}, api.Reply{Rows: append(slices.Clone(was.Rows), was.Rows[n-1])})
			if n > 1 {
				wrong = append(wrong, api.Reply{Rows: turned})
			}
		}
		for _, r := range wrong {
			l := one(0, list...)
			l[i/2].Reply = r
			checks(t, rows, l, i/2, api.ErrHistRead)
			// Not committed: its CBegin is told.
			checks(t, rows, l[:len(l)-1], 0, api.ErrHistRead)
			checks(t, rows, l[:i/2+1], 0, api.ErrHistRead)
			l[len(l)-2].Reply = r // the first one is told
			checks(t, rows, l, i/2, api.ErrHistRead)
		}
	}
}

// P19.1.4: by rising Times, and not as they were answered, each reads what those ahead of it have left; the first one that is wrong is told.
func TestCommittedByTimes(t *testing.T) {
	var h teller
	h.starts(0, 1, 2)
	h.fine(0, begin, insert("a", "1"))
	h.fine(1, begin)
	h.does(1, get("a"), found("1"))
	h.fine(1, remove("a"))
	h.fine(2, begin)
	h.does(2, all, none)
	h.fine(2, insert("a", "2"))
	h.does(2, commit, at(30))
	h.does(1, commit, at(20))
	h.does(0, commit, at(10))
	commits(t, nil, h.l, writes(10, put("a", "1")), writes(20, gone("a")), writes(30, put("a", "2")))
	orders(t, h.l, api.OK, 30, 20, 10)

	wrong := slices.Clone(h.l)
	wrong[6].Reply = rowsOf("a", "1") // of that with Time 30
	checks(t, nil, wrong, 6, api.ErrHistRead)
	wrong[3].Reply = none // of that with Time 20
	checks(t, nil, wrong, 3, api.ErrHistRead)
	wrong[1].Reply = code(api.ErrTxnHas) // of that with Time 10
	checks(t, nil, wrong, 1, api.ErrHistRead)

	// The lesser Time is told, though the greater one stands ahead.
	turned := slices.Clone(h.l)
	turned[8].Reply.Time, turned[10].Reply.Time = 10, 30
	checks(t, nil, turned, 3, api.ErrHistRead) // at 20 a is 2
}

// P19.1.4: calls that are refused for what they are, and calls of other Kinds, are nothing to explain.
func TestRefusedCalls(t *testing.T) {
	list := []any{
		begin, ok, get(key17), code(api.ErrTxnKey), scan(key17, ""), code(api.ErrTxnKey), insert("a", val65), code(api.ErrTxnValue), update("", val65), code(api.ErrTxnKey), remove(""), code(api.ErrTxnKey),
		begin, code(api.ErrTxnOpen), sweep, code(api.ErrTxnOpen), of(77), code(api.ErrTxnCall), insert("a", "x"), ok, all, rowsOf("a", "x"), commit, at(1), commit, code(api.ErrTxnNone),
		get("a"), code(api.ErrTxnNone), of(api.CMerge), code(api.ErrMergeNone), sweep, api.Reply{N: 3},
	}
	commits(t, nil, one(9, list...), writes(1, put("a", "x")))
}

// full tells a transaction that has written 64 keys, some of them again.
func full(h *teller, w int) {
	h.fine(w, begin)
	for i := range 64 {
		h.fine(w, insert(name(i), ""))
	}
	h.fine(w, update(name(0), "1"), remove(name(1)), insert(name(1), "2"), remove(name(2)))
	h.does(w, update("z", ""), code(api.ErrTxnMissing))
	h.does(w, get("z"), none)
}

// P19.1.4, P19.1.5: MaxWrites counts: a 65th key may not be written, whatever became of the others.
func TestMaxWrites(t *testing.T) {
	var h teller
	full(&h, 1)
	last := len(h.l)
	h.does(1, commit, at(3))
	right(t, nil, h.l)
	h.l = h.l[:last]
	h.does(1, insert("z", ""), ok)
	checks(t, nil, h.l, 0, api.ErrHistRead)
	h.does(1, commit, at(3))
	checks(t, nil, h.l, last, api.ErrHistRead)
	h.l = h.l[:last]
	h.does(1, insert("z", ""), code(api.ErrTxnFull))
	h.does(1, commit, code(api.ErrTxnNone))
	right(t, nil, h.l)
	// ErrTxnFull may be the answer of whatever is no 65th key, too.
	right(t, nil, one(1, begin, ok, insert("a", ""), code(api.ErrTxnFull)))
	right(t, nil, one(1, begin, ok, get("a"), code(api.ErrTxnFull)))
}

// P19.1.4: how many keys there ever were does not count.
func TestMaxOpen(t *testing.T) {
	var h teller
	for i := range 20 {
		h.fine(0, begin)
		for k := range 30 {
			h.fine(0, insert(name(30*i+k), ""))
		}
		h.does(0, commit, at(int64(i+1)))
	}
	h.fine(0, api.Call{Kind: api.CBegin, Mode: api.Pessimistic})
	for k := range 300 {
		h.does(0, get(name(k)), found(""))
	}
	h.does(0, commit, at(21))
	right(t, nil, h.l)
}

// tail tells what a transaction of worker 1 came to, its CBegin and its CGets of a and b first.
func tail(h *teller, a, b api.Reply, end ...any) {
	h.does(1, begin, ok)
	h.does(1, get("a"), a)
	h.does(1, get("b"), b)
	for i := 0; i < len(end); i += 2 {
		h.does(1, end[i].(api.Call), end[i+1].(api.Reply))
	}
}

// P19.1.5: whatever has ended a transaction, or nothing, it is to be explained.
func TestOthersAreExplained(t *testing.T) {
	ends := [][]any{nil, {abort, ok}}
	for _, e := range append(aborting, says...) {
		for _, c := range []api.Call{abort, commit, get("a"), all, insert("c", ""), update("a", ""), remove("a")} {
			ends = append(ends, []any{c, code(e)})
		}
	}
	rows := []api.Row{row("a", "x", 1)}
	for _, end := range ends {
		var h teller
		tail(&h, found("x"), none, end...)
		right(t, rows, h.l)
		h = teller{}
		tail(&h, found("x"), found("y"), end...)
		checks(t, rows, h.l, 0, api.ErrHistRead)
		h = teller{}
		h.fine(0, sweep)
		tail(&h, found("y"), none, end...)
		checks(t, rows, h.l, 1, api.ErrHistRead)
	}
}

// steps tells four commits of worker 0: a is 0, 1, 2, 3, 4 and b 0, 0, 2, 2, 4 ahead of, between and behind them.
func steps(h *teller, n int) {
	for i := 1; i <= n; i++ {
		h.fine(0, begin, update("a", strconv.Itoa(i)))
		if i%2 == 0 {
			h.fine(0, update("b", strconv.Itoa(i)))
		}
		h.does(0, commit, at(int64(10*i)))
	}
}

// P19.1.5: some rows that were there from what had been answered by its begin on, up to the end, all reads by the same ones.
func TestOthersByRows(t *testing.T) {
	rows := []api.Row{row("a", "0", 1), row("b", "0", 2)}
	pairs := map[[2]string]int{{"0", "0"}: 0, {"1", "0"}: 1, {"2", "2"}: 2, {"3", "2"}: 3, {"4", "4"}: 4} // by what they read: behind how many commits
	for ahead := range 5 {
		for _, a := range []string{"0", "1", "2", "3", "4", "5"} {
			for _, b := range []string{"0", "1", "2", "3", "4"} {
				for _, late := range []bool{false, true} {
					var h teller
					steps(&h, ahead)
					if late { // the commits behind it were answered behind its end: rows may explain it all the same
						tail(&h, found(a), found(b), abort, ok)
					} else {
						h.starts(1)
					}
					place := len(h.l)
					if late {
						place -= 4
					}
					for i := ahead + 1; i <= 4; i++ {
						h.fine(0, begin, update("a", strconv.Itoa(i)))
						if i%2 == 0 {
							h.fine(0, update("b", strconv.Itoa(i)))
						}
						h.does(0, commit, at(int64(10*i)))
					}
					if !late {
						place = len(h.l)
						tail(&h, found(a), found(b), abort, ok)
					}
					if k, is := pairs[[2]string{a, b}]; is && k >= ahead {
						right(t, rows, h.l)
					} else {
						checks(t, rows, h.l, place, api.ErrHistRead)
					}
				}
			}
		}
	}
}

// P19.1.5: a commit counts as answered at the moment of its Ended, and by its Time, not by its place.
func TestOthersByMoments(t *testing.T) {
	// 0 lays a at Time 9, answered at 6; 2 lays b at Time 5, answered at 8; 1 begins at begun.
	history := func(begun int, reply api.Reply) []api.Done {
		return []api.Done{
			done(0, 0, 1, begin, ok), done(2, 0, 2, begin, ok), done(0, 1, 3, insert("a", ""), ok), done(2, 2, 4, insert("b", ""), ok),
			done(0, 5, 6, commit, at(9)), done(2, 7, 8, commit, at(5)), done(1, begun, 20, begin, ok), done(1, 21, 22, all, reply),
		}
	}
	both, first := rowsOf("a", "", "b", ""), rowsOf("b", "")
	for begun := range 20 {
		right(t, nil, history(begun, both))
		checks(t, nil, history(begun, rowsOf("a", "")), 6, api.ErrHistRead)
		if begun < 6 {
			right(t, nil, history(begun, first))
			right(t, nil, history(begun, none))
		} else { // that with Time 5 stands ahead of that with Time 9
			checks(t, nil, history(begun, first), 6, api.ErrHistRead)
			checks(t, nil, history(begun, none), 6, api.ErrHistRead)
		}
	}
}

// P19.1.5: of several that nothing explains that whose CBegin is the first one, behind all that was committed.
func TestFirstOfOthers(t *testing.T) {
	history := func() []api.Done {
		var h teller
		h.starts(3, 2)
		h.fine(2, begin) // its CBegin stands first, though 3's has begun ahead of it
		h.fine(3, begin)
		h.does(3, get("a"), none)
		h.does(2, all, none)
		h.fine(3, abort)
		h.fine(0, begin, insert("a", "x"))
		h.does(0, commit, at(1))
		h.fine(2, abort)
		h.fine(5, begin)
		h.does(5, get("a"), found("x"))
		return h.l
	}
	right(t, nil, history())
	l := history()
	l[9].Reply = ok
	l[10].Reply = none
	checks(t, nil, l, 9, api.ErrHistRead)
	l[2].Reply = found("y")
	checks(t, nil, l, 1, api.ErrHistRead)
	l[3].Reply = rowsOf("b", "")
	checks(t, nil, l, 0, api.ErrHistRead)
	l[6].Reply = code(api.ErrTxnHas) // of the committed one
	checks(t, nil, l, 6, api.ErrHistRead)
	l[7].Reply.Time = 0
	checks(t, nil, l, 7, api.ErrHistOrder)
	l[8].Reply = code(api.ErrTxnNone)
	checks(t, nil, l, 8, api.ErrHistRead)
	l[10].Begun = 0
	checks(t, nil, l, 10, api.ErrHistForm)
}

// P19.1.5: what it wrote itself counts; nothing of it stands.
func TestOthersWrite(t *testing.T) {
	rows := []api.Row{row("a", "x", 3), row("b", "y", 2)}
	list := append([]any{begin, ok}, answers()...)
	right(t, rows, one(0, list...))
	list = append(list, abort, ok)
	right(t, rows, one(0, append(list, list...)...))
	list[len(list)-1] = code(api.ErrTxnDeadlock)
	twice := append(slices.Clone(list), list...)
	commits(t, rows, one(0, append(twice, begin, ok, all, rowsOf("a", "x", "b", "y"), commit, at(4))...), writes(4))
}

// P19.1.5: calls that read one thing ahead of a commit and another one behind it, of each Kind, each for all ways to go on.
func TestOthersReadOneState(t *testing.T) {
	// a is there ahead of the commits, b behind the first one, and c behind the second one.
	rows := []api.Row{row("a", "x", 1)}
	lives := [][]any{
		{get("a"), found("x"), none, none}, {get("b"), none, found("y"), found("w")}, {get("c"), none, none, found("")},
		{all, rowsOf("a", "x"), rowsOf("b", "y"), rowsOf("b", "w", "c", "")}, {scan("a", "b"), rowsOf("a", "x"), none, none}, {scan("b", ""), none, rowsOf("b", "y"), rowsOf("b", "w", "c", "")},
		{scan("bb", "d"), none, none, rowsOf("c", "")},
		{insert("a", "1"), code(api.ErrTxnHas), ok, ok}, {insert("b", "1"), ok, code(api.ErrTxnHas), code(api.ErrTxnHas)}, {insert("c", "1"), ok, ok, code(api.ErrTxnHas)},
		{update("a", "1"), ok, code(api.ErrTxnMissing), code(api.ErrTxnMissing)}, {update("b", "1"), code(api.ErrTxnMissing), ok, ok}, {update("c", "1"), code(api.ErrTxnMissing), code(api.ErrTxnMissing), ok},
		{remove("a"), ok, code(api.ErrTxnMissing), code(api.ErrTxnMissing)}, {remove("b"), code(api.ErrTxnMissing), ok, ok}, {remove("c"), code(api.ErrTxnMissing), code(api.ErrTxnMissing), ok},
	}
	same := func(r, s any) bool {
		x, y := r.(api.Reply), s.(api.Reply)
		return x.Code == y.Code && x.Found == y.Found && x.Val == y.Val && slices.Equal(x.Rows, y.Rows)
	}
	for _, first := range lives {
		for _, second := range lives {
			if first[0].(api.Call).Kind >= api.CInsert && first[0].(api.Call).Kind != api.CScan {
				continue // it would hide what the second one reads
			}
			for i := 1; i <= 3; i++ {
				for j := 1; j <= 3; j++ {
					var h teller
					h.fine(1, begin)
					h.does(1, first[0].(api.Call), first[i].(api.Reply))
					h.does(1, second[0].(api.Call), second[j].(api.Reply))
					h.fine(0, begin, remove("a"), insert("b", "y"))
					h.does(0, commit, at(2))
					h.fine(0, begin, update("b", "w"), insert("c", ""))
					h.does(0, commit, at(3))
					may := false
					for k := 1; k <= 3; k++ {
						may = may || same(first[k], first[i]) && same(second[k], second[j])
					}
					if may {
						right(t, rows, h.l)
					} else {
						checks(t, rows, h.l, 0, api.ErrHistRead)
					}
				}
			}
		}
	}
}

// P19.2: what a committed transaction comes to, key by key.
func TestCommits(t *testing.T) {
	rows := []api.Row{row("a", "x", 5), row("c", "z", 4)}
	for _, c := range []struct {
		calls []api.Call
		want  []api.Write
	}{
		{nil, nil},
		{[]api.Call{insert("b", "1")}, []api.Write{put("b", "1")}},
		{[]api.Call{insert("d", "1"), insert("b", ""), insert("B", "3")}, []api.Write{put("B", "3"), put("b", ""), put("d", "1")}},
		{[]api.Call{insert("b", "1"), update("b", "2")}, []api.Write{put("b", "2")}},
		{[]api.Call{insert("b", "1"), remove("b")}, nil},
		{[]api.Call{insert("b", "1"), update("b", "2"), remove("b")}, nil},
		{[]api.Call{insert("b", "1"), remove("b"), insert("b", "2")}, []api.Write{put("b", "2")}},
		{[]api.Call{insert("b", "1"), remove("b"), insert("b", "2"), remove("b")}, nil},
		{[]api.Call{update("a", "y")}, []api.Write{put("a", "y")}},
		{[]api.Call{update("a", "x")}, []api.Write{put("a", "x")}},
		{[]api.Call{update("a", "y"), update("a", "x")}, []api.Write{put("a", "x")}},
		{[]api.Call{remove("a")}, []api.Write{gone("a")}},
		{[]api.Call{update("a", "y"), remove("a")}, []api.Write{gone("a")}},
		{[]api.Call{remove("a"), insert("a", "x")}, []api.Write{put("a", "x")}},
		{[]api.Call{remove("a"), insert("a", "y"), remove("a")}, []api.Write{gone("a")}},
		{[]api.Call{remove("c"), insert("b", ""), remove("a"), insert("d", ""), remove("d")}, []api.Write{gone("a"), put("b", ""), gone("c")}},
		{[]api.Call{insert("\xff", ""), insert("\x00", val64), insert(key16, "")}, []api.Write{put("\x00", val64), put(key16, ""), put("\xff", "")}},
	} {
		var h teller
		h.fine(2, begin)
		h.fine(2, c.calls...)
		for _, refused := range []api.Call{insert("e", val65), update("e", ""), remove("e"), insert("f", "")} {
			switch {
			case len(refused.Val) > 64:
				h.does(2, refused, code(api.ErrTxnValue))
			case refused.Kind != api.CInsert:
				h.does(2, refused, code(api.ErrTxnMissing))
			default: // what was refused, or aborted, has laid nothing
				h.does(2, commit, at(8))
				h.fine(2, begin, refused)
				h.does(2, refused, code(api.ErrTxnConflict))
			}
		}
		commits(t, rows, h.l, writes(8, c.want...))
	}
}

// P19.2: of each one what was there ahead of it, by those with a lesser Time.
func TestCommitsOfSeveral(t *testing.T) {
	var h teller
	h.fine(0, begin, insert("a", "1"), insert("b", "1"))
	h.does(0, commit, at(2))
	h.fine(0, begin, remove("a"), insert("c", "2"), remove("c"))
	h.fine(1, begin)
	h.does(0, commit, at(5))
	h.does(1, insert("a", "3"), ok)
	h.fine(1, remove("a"), remove("b"))
	h.does(1, commit, at(9))
	h.fine(0, begin)
	h.does(0, all, none)
	h.does(0, commit, at(lastTime))
	commits(t, nil, h.l, writes(2, put("a", "1"), put("b", "1")), writes(5, gone("a")), writes(9, gone("b")), writes(lastTime))
	orders(t, h.l, api.OK, 2, 5, 9, lastTime)
}

// P19.3: what was answered OK, in the list's order, whether it may be or not.
func TestOrder(t *testing.T) {
	l := one(0, begin, ok, commit, at(9), commit, at(9), commit, code(api.ErrTxnNone), commit, at(-3), sweep, at(4), of(12), at(5), commit, api.Reply{Val: "x", Time: 7}, begin, code(api.ErrTxnFull),
		commit, api.Reply{Code: api.ErrTxnConflict, Time: 8}, commit, at(0), abort, at(6), commit, at(math.MaxInt64), commit, api.Reply{Code: api.ErrDiskOff, Time: 3})
	orders(t, l, api.OK, 9, 9, -3, 7, 0, math.MaxInt64)
	checks(t, nil, l, 2, api.ErrHistRead)
	orders(t, append(l, l[0]), api.ErrHistForm)
	orders(t, one(0, begin, ok), api.OK)
}

// R3: what is handed in is left as it is; what is answered is new memory.
func TestMemory(t *testing.T) {
	rows := []api.Row{row("a", "x", 5), row("b", "y", 6), row("spare", "", 9)}
	var h teller
	h.starts(3)
	h.fine(0, begin)
	h.fine(1, begin)
	h.does(0, all, rowsOf("a", "x", "b", "y"))
	h.fine(1, update("a", "1"), remove("b"))
	h.does(1, commit, at(20))
	h.does(0, commit, at(10))
	h.fine(3, begin)
	h.does(3, scan("a", ""), rowsOf("a", "x", "b", "y"))
	h.fine(3, abort)
	h.fine(0, sweep)
	l, given := h.l[:len(h.l)-1], h.l
	copied, keptRows := slices.Clone(given), slices.Clone(rows)
	for i := range copied {
		copied[i].Reply.Rows = slices.Clone(copied[i].Reply.Rows)
	}
	first, e := hist.Commits(rows[:2], l)
	second, _ := hist.Commits(rows[:2], l)
	times, _ := hist.Order(l)
	again, _ := hist.Order(l)
	right(t, rows[:2], l)
	if e != api.OK || !slices.Equal(rows, keptRows) {
		t.Error("rows that were handed in were written into", rows, e)
	}
	for i, d := range given {
		c := copied[i]
		if d.W != c.W || d.Begun != c.Begun || d.Ended != c.Ended || d.Call != c.Call || d.Reply.Code != c.Reply.Code || !slices.Equal(d.Reply.Rows, c.Reply.Rows) {
			t.Error("Dones that were handed in were written into", i, d, c)
		}
	}
	wipe(first[0].Writes)
	wipe(first[1].Writes)
	first = append(first[:0], writes(-1), writes(-1), writes(-1))
	clear(times[:cap(times)])
	want := []api.Commit{writes(10), writes(20, put("a", "1"), gone("b"))}
	if !slices.EqualFunc(second, want, sameCommit) || !slices.Equal(again, []int64{20, 10}) || len(first) != 3 {
		t.Error(second, again)
	}
	commits(t, rows[:2], l, want...)
	orders(t, l, api.OK, 20, 10)

	// Two commits' lists share nothing.
	list, _ := hist.Commits(nil, one(0, begin, ok, insert("a", ""), ok, commit, at(1), begin, ok, insert("b", ""), ok, commit, at(2)))
	wipe(list[0].Writes)
	if !sameCommit(list[1], writes(2, put("b", ""))) {
		t.Error(list)
	}
}

// wipe writes all over a list, spare room too.
func wipe(list []api.Write) {
	for i := range list[:cap(list)] {
		list[:cap(list)][i] = put("wiped", "wiped")
	}
}
