package txn_test

import (
	"fmt"
	"slices"
	"strings"
	"testing"
	"unsafe"

	"varve/api"
	"varve/txn"
)

const last = api.MaxTime - 1

// The chapter's examples, on one memory, from the first to the last.
func TestExamples(t *testing.T) {
	m := memory(t, nil, row("a", "x", 3))
	if m.Now() != 3 {
		t.Fatal(m.Now())
	}
	fine(t, m, 0, optimistic)
	says(t, m, 0, get("a"), found("x"))
	fine(t, m, 0, update("a", "y"))
	says(t, m, 0, get("a"), found("y"))
	says(t, m, 0, commit, at(4))
	if m.Now() != 4 {
		t.Fatal(m.Now())
	}

	hasRows(t, m.Rows(3), row("a", "x", 3))
	hasRows(t, m.Rows(4), row("a", "y", 4))
	hasVersions(t, m, 2)
	says(t, m, 0, swept, api.Reply{N: 1})
	hasVersions(t, m, 1)

	fine(t, m, 0, optimistic)
	says(t, m, 0, insert("a", "z"), code(api.ErrTxnHas))
	says(t, m, 0, remove("b"), code(api.ErrTxnMissing))
	fine(t, m, 0, insert("b", "z"))
	says(t, m, 0, scan("", ""), rowsOf("a", "y", "b", "z"))
	fine(t, m, 0, abort)
	hasRows(t, m.Rows(4), row("a", "y", 4))

	fine(t, m, 0, optimistic)
	fine(t, m, 1, optimistic)
	fine(t, m, 0, update("a", "p"))
	says(t, m, 1, update("a", "q"), code(api.ErrTxnConflict))
	says(t, m, 0, commit, at(5))

	fine(t, m, 0, optimistic)
	says(t, m, 0, get("a"), found("p"))
	fine(t, m, 1, optimistic, update("a", "r"))
	says(t, m, 1, commit, at(6))
	fine(t, m, 0, insert("c", "z"))
	says(t, m, 0, commit, code(api.ErrTxnConflict))

	start(t, m, 0, get("a"))
	refusesStart(t, m, 0, get("a"), api.ErrTxnBusy)
	refusesStart(t, m, 16, get("a"), api.ErrArg)
	says(t, m, 1, api.Call{Kind: api.CCheckpoint}, code(api.ErrTxnCall))
}

// DOC.md's eighth example.
func TestThreeUpdatesAndASweep(t *testing.T) {
	m := memory(t, nil)
	fine(t, m, 0, optimistic, insert("a", "0"))
	says(t, m, 0, commit, at(1))
	for i := range 3 {
		fine(t, m, 0, optimistic, update("a", fmt.Sprint(i+1)))
		says(t, m, 0, commit, at(int64(i+2)))
	}
	hasVersions(t, m, 4)
	says(t, m, 0, swept, api.Reply{N: 3})
	hasVersions(t, m, 1)
	hasRows(t, m.Rows(4), row("a", "3", 4))
}

func hasVersions(t *testing.T, m *txn.Memory, want int) {
	t.Helper()
	if n := m.Versions(); n != want {
		t.Fatalf("%d versions, not %d", n, want)
	}
}

func refusesStart(t *testing.T, m *txn.Memory, w int, c api.Call, want api.Errno) {
	t.Helper()
	if e := m.Start(w, c); e != want {
		t.Fatalf("Start(%d, %v): %v, not %v", w, c, e, want)
	}
}

// many are so many rows.
func many(n int) []api.Row {
	var rows []api.Row
	for i := range n {
		rows = append(rows, row(fmt.Sprintf("%04d", i), fmt.Sprint(i%7), int64(i%11)))
	}
	return rows
}

// P17.1: which rows a memory may have at first.
func TestNewRefuses(t *testing.T) {
	long := strings.Repeat("k", 17)
	for _, rows := range [][]api.Row{
		{row("", "x", 1)},
		{row(long, "x", 1)},
		{row("a", strings.Repeat("v", 65), 1)},
		{row("a", "x", -1)},
		{row("a", "x", api.MaxTime)},
		{row("a", "x", 1), row("a", "y", 2)},
		{row("b", "x", 1), row("a", "y", 2)},
		{row("a", "x", 1), row("b", "y", 2), row("b", "y", 2)},
		{row("a", "x", 1), row("", "y", 2)},
		{row("\xff", "x", 1), row("a", "y", 2)},
		many(257),
		many(5000),
	} {
		if m, e := txn.New(rows, nil); m != nil || e != api.ErrArg {
			t.Errorf("New(%v): %v, %v", rows, m, e)
		}
	}
}

func TestNewHasItsRows(t *testing.T) {
	full := strings.Repeat("k", 16)
	for _, rows := range [][]api.Row{
		nil,
		{row("a", "", 0)},
		{row("\x00", "x", last)},
		{row(full[:15], "x", 9), row(full, strings.Repeat("v", 64), 5), row(full[:15]+"\xff", "y", 7)},
		many(1),
		many(256),
	} {
		m := memory(t, nil, rows...)
		hasRows(t, m.Rows(last), rows...)
		clock := int64(0)
		for _, r := range rows {
			clock = max(clock, r.Time)
		}
		if m.Now() != clock || m.Versions() != len(rows) {
			t.Errorf("Now %d, not %d; %d versions", m.Now(), clock, m.Versions())
		}
		fine(t, m, 3, optimistic)
		for _, r := range rows {
			says(t, m, 3, get(r.Key), found(r.Val))
		}
	}
}

// R3: rows and texts that are handed in are not kept; what is answered is new memory.
func TestNothingIsShared(t *testing.T) {
	rows := []api.Row{row("a", "x", 1), row("b", "y", 2)}
	m := memory(t, nil, rows...)
	rows[0], rows[1] = row("z", "z", 9), row("z", "z", 9)
	hasRows(t, m.Rows(9), row("a", "x", 1), row("b", "y", 2))

	key, val := strings.Repeat("k", 9), strings.Repeat("v", 9)
	fine(t, m, 0, optimistic, insert(key, val))
	r := do(t, m, 0, scan("", ""))
	got := do(t, m, 0, get(key)).Val
	says(t, m, 0, commit, at(3))
	s := m.Snap()
	for !s.Step() {
	}
	texts := []string{key, val, got}
	for _, list := range [][]api.Row{r.Rows, m.Rows(9), m.Rows(9), s.Rows(), s.Rows()} {
		if len(list) != 3 {
			t.Fatal(list)
		}
		texts = append(texts, list[2].Key, list[2].Val)
		list[0] = row("none", "", 0)
		_ = append(list, row("more", "", 0))
	}
	for i, a := range texts {
		for _, b := range texts[:i] {
			if unsafe.StringData(a) == unsafe.StringData(b) {
				t.Errorf("%q is shared", a)
			}
		}
	}
	hasRows(t, s.Rows(), m.Rows(9)...)
}

// P17.2: who may begin a call, and when a reply is there.
func TestStartStepReply(t *testing.T) {
	m := memory(t, nil, row("a", "x", 3))
	for _, w := range []int{-1, 16, 17, -1 << 62, 1<<62 + 3} {
		refusesStart(t, m, w, optimistic, api.ErrArg)
		if m.Step(w) || m.Has(w) || m.Drawn(w) != 0 {
			t.Errorf("worker %d", w)
		}
		if r, is := m.Reply(w); is || !sameReply(r, api.Reply{}) {
			t.Errorf("worker %d: %v, %v", w, r, is)
		}
	}
	for w := range 16 {
		if m.Step(w) {
			t.Errorf("worker %d does a step of no call", w)
		}
		start(t, m, w, optimistic)
		refusesStart(t, m, w, optimistic, api.ErrTxnBusy)
		if r, is := m.Reply(w); is || !sameReply(r, api.Reply{}) {
			t.Errorf("worker %d: %v ahead of the first step", w, r)
		}
		for m.Step(w) {
			refusesStart(t, m, w, optimistic, api.ErrTxnBusy)
		}
		refusesStart(t, m, w, optimistic, api.ErrTxnBusy)
		if r, is := m.Reply(w); !is || !sameReply(r, api.Reply{}) {
			t.Errorf("worker %d: %v, %v", w, r, is)
		}
		if r, is := m.Reply(w); is || !sameReply(r, api.Reply{}) {
			t.Errorf("worker %d: %v again", w, r)
		}
		if m.Step(w) || !m.Has(w) {
			t.Errorf("worker %d: a step, or no transaction, behind its reply", w)
		}
	}
}

// P17.2: nothing is done ahead of the first step, and a call does nothing once it is answered.
func TestAStartedCallHasDoneNothing(t *testing.T) {
	m := memory(t, nil, row("a", "x", 3))
	start(t, m, 0, optimistic)
	if m.Has(0) {
		t.Error("CBegin is done without a step")
	}
	finish(t, m, 0)
	start(t, m, 0, update("a", "y"))
	fine(t, m, 1, optimistic, update("a", "z"))
	says(t, m, 1, commit, at(4))
	if r := finish(t, m, 0); !sameReply(r, code(api.ErrTxnConflict)) {
		t.Error(r)
	}
}

// plainError is a call's first error, told plainly.
func plainError(c api.Call, has bool) api.Errno {
	text := func(bad bool, e api.Errno) api.Errno {
		if bad {
			return e
		}
		return api.OK
	}
	first := func(list ...api.Errno) api.Errno {
		for _, e := range list {
			if e != api.OK {
				return e
			}
		}
		return api.OK
	}
	none, open := text(!has, api.ErrTxnNone), text(has, api.ErrTxnOpen)
	key := text(len(c.Key) == 0 || len(c.Key) > 16, api.ErrTxnKey)
	val := text(len(c.Val) > 64, api.ErrTxnValue)
	switch c.Kind {
	case api.CBegin:
		return first(open, text(c.Mode != 1 && c.Mode != 2, api.ErrTxnCall))
	case api.CGet, api.CDelete:
		return first(none, key)
	case api.CScan:
		return first(none, text(len(c.Key) > 16 || len(c.High) > 16, api.ErrTxnKey))
	case api.CInsert, api.CUpdate:
		return first(none, key, val)
	case api.CCommit, api.CAbort:
		return none
	case api.CCheckpoint, api.CMerge:
		return first(open, api.ErrTxnCall)
	case api.CSweep:
		return open
	}
	return api.ErrTxnCall
}

// P17.2, DOC.md: the first error of each call; it leaves the transaction as it was.
func TestFirstErrors(t *testing.T) {
	texts := []string{"", "a", strings.Repeat("k", 16), strings.Repeat("k", 17), strings.Repeat("k", 64), strings.Repeat("k", 65)}
	for _, mode := range []int{0, api.Optimistic, api.Pessimistic} {
		m := memory(t, nil, row("a", "x", 3))
		if mode != 0 {
			fine(t, m, 0, beginOf(mode), update("a", "own"))
		}
		for _, kind := range []int{-1 << 63, -1, 0, 1, 2, 3, 4, 5, 6, 7, 8, 9, 10, 11, 12, 99, 1<<63 - 1} {
			for _, asked := range []int{-1, 0, 1, 2, 3, 1<<63 - 1} {
				for i := range len(texts) * len(texts) * len(texts) {
					n := len(texts)
					c := api.Call{Kind: kind, Mode: asked, Key: texts[i%n], Val: texts[i/n%n], High: texts[i/n/n], Draw: -asked, N: asked}
					want := plainError(c, mode != 0)
					if want == api.OK {
						continue
					}
					says(t, m, 0, c, code(want))
				}
			}
		}
		if mode != 0 {
			says(t, m, 0, scan("", ""), rowsOf("a", "own"))
			says(t, m, 0, commit, at(4))
		}
		if m.Has(0) {
			t.Error("it has a transaction")
		}
	}
}

// P17.2: fields that a Kind does not use are not looked at.
func TestUnusedFields(t *testing.T) {
	long := strings.Repeat("z", 99)
	with := func(c api.Call, key, high, val bool) api.Call {
		if key {
			c.Key = long
		}
		if high {
			c.High = long
		}
		if val {
			c.Val = long
		}
		c.N = -7
		if c.Kind != api.CBegin {
			c.Mode = 99
		}
		if c.Kind != api.CInsert {
			c.Draw = -99
		}
		return c
	}
	m := memory(t, nil, row("a", "x", 3))
	fine(t, m, 0, with(optimistic, true, true, true))
	says(t, m, 0, with(get("a"), false, true, true), found("x"))
	says(t, m, 0, with(scan("a", "b"), false, false, true), rowsOf("a", "x"))
	fine(t, m, 0, with(insert("b", "y"), false, true, false), with(update("b", "z"), false, true, false), with(remove("a"), false, true, true))
	says(t, m, 0, with(commit, true, true, true), at(4))
	says(t, m, 0, with(swept, true, true, true), api.Reply{N: 1})
	fine(t, m, 0, with(pessimistic, true, true, true), with(abort, true, true, true))
	hasRows(t, m.Rows(4), row("b", "z", 4))
}

// P17.1: a tower's height may be any number.
func TestDraws(t *testing.T) {
	m := memory(t, nil)
	fine(t, m, 0, optimistic)
	var want []string
	for i, draw := range []int{-1 << 63, -1, 0, 1, 2, 7, 8, 9, 1<<63 - 1} {
		key := string(rune('i' - i))
		fine(t, m, 0, api.Call{Kind: api.CInsert, Key: key, Val: key, Draw: draw})
		want = append([]string{key, key}, want...)
		says(t, m, 0, scan("", ""), rowsOf(want...))
	}
}

// P17.3: the clock, and what it may be put ahead to.
func TestClock(t *testing.T) {
	m := memory(t, nil, row("a", "x", 3))
	for _, c := range []struct {
		to   int64
		code api.Errno
		now  int64
	}{
		{-1, api.ErrArg, 3}, {-1 << 63, api.ErrArg, 3}, {api.MaxTime, api.ErrArg, 3}, {1<<63 - 1, api.ErrArg, 3},
		{0, api.OK, 3}, {3, api.OK, 3}, {9, api.OK, 9}, {5, api.OK, 9}, {last - 1, api.OK, last - 1},
	} {
		if e := m.Ahead(c.to); e != c.code || m.Now() != c.now {
			t.Errorf("Ahead(%d): %v; the clock is %d", c.to, e, m.Now())
		}
	}
	fine(t, m, 0, optimistic, update("a", "y"))
	says(t, m, 0, commit, at(last))
	hasRows(t, m.Rows(last-1), row("a", "x", 3))
	hasRows(t, m.Rows(last), row("a", "y", last))
	// P17.5: there are no more timestamps.
	for _, mode := range []int{api.Optimistic, api.Pessimistic} {
		fine(t, m, 0, beginOf(mode), update("a", "z"), insert("b", "z"))
		says(t, m, 0, commit, code(api.ErrTxnTime))
		fine(t, m, 0, beginOf(mode))
		says(t, m, 0, commit, code(api.ErrTxnTime))
		if m.Has(0) || m.Drawn(0) != 0 || m.Now() != last {
			t.Errorf("%t, %d, %d", m.Has(0), m.Drawn(0), m.Now())
		}
	}
	hasRows(t, m.Rows(last), row("a", "y", last))
	if e := m.Ahead(last); e != api.OK || m.Now() != last {
		t.Error(e)
	}
}

// P17.3: Rows at all times, those that are none, too.
func TestRowsAtTimes(t *testing.T) {
	m := memory(t, nil, row("a", "x", 3), row("c", "z", 5))
	fine(t, m, 0, optimistic, remove("a"), insert("b", "y"))
	says(t, m, 0, commit, at(6))
	fine(t, m, 0, pessimistic, insert("a", "w"), remove("c"))
	says(t, m, 0, commit, at(7))
	for _, c := range []struct {
		at   int64
		rows []api.Row
	}{
		{-1 << 63, nil}, {-1, nil}, {0, nil}, {2, nil},
		{3, []api.Row{row("a", "x", 3)}},
		{4, []api.Row{row("a", "x", 3)}},
		{5, []api.Row{row("a", "x", 3), row("c", "z", 5)}},
		{6, []api.Row{row("b", "y", 6), row("c", "z", 5)}},
		{7, []api.Row{row("a", "w", 7), row("b", "y", 6)}},
		{last, []api.Row{row("a", "w", 7), row("b", "y", 6)}},
		{api.MaxTime, nil}, {1<<63 - 1, nil},
	} {
		hasRows(t, m.Rows(c.at), c.rows...)
	}
}

// P17.7, R4: what is no memory, and no Snap.
func TestNil(t *testing.T) {
	for _, m := range []*txn.Memory{nil, {}} {
		for _, w := range []int{-1, 0, 15, 16} {
			refusesStart(t, m, w, optimistic, api.ErrNil)
			r, is := m.Reply(w)
			if m.Step(w) || is || !sameReply(r, api.Reply{}) || m.Has(w) || m.Drawn(w) != 0 {
				t.Error(w, r)
			}
		}
		for _, at := range []int64{-1, 0, 5, api.MaxTime} {
			if e := m.Ahead(at); e != api.ErrNil || m.Rows(at) != nil {
				t.Error(e, m.Rows(at))
			}
		}
		if m.Now() != 0 || m.Versions() != 0 || m.Snap() != nil {
			t.Error(m.Now(), m.Versions(), m.Snap())
		}
	}
	for _, s := range []*txn.Snap{nil, {}} {
		if !s.Step() || !s.Step() || s.Rows() != nil || s.At() != 0 {
			t.Error(s.Rows(), s.At())
		}
	}
}

// R4: memories are apart.
func TestTwoMemories(t *testing.T) {
	a, b := memory(t, nil, row("a", "x", 3)), memory(t, nil, row("a", "x", 3))
	fine(t, a, 0, pessimistic, update("a", "y"))
	fine(t, b, 0, pessimistic, update("a", "z"))
	fine(t, b, 1, optimistic)
	says(t, b, 1, get("a"), found("x"))
	says(t, a, 0, commit, at(4))
	hasRows(t, b.Rows(9), row("a", "x", 3))
	says(t, b, 0, commit, at(4))
	hasRows(t, a.Rows(9), row("a", "y", 4))
	hasRows(t, b.Rows(9), row("a", "z", 4))
}

// The same calls, stepped the same way, are answered the same.
func TestTheSameAgain(t *testing.T) {
	var first []api.Reply
	for range 3 {
		m := memory(t, nil, many(40)...)
		var replies []api.Reply
		for i := range 40 {
			fine(t, m, i%16, beginOf(1+i%2), insert(fmt.Sprint(i), "n"))
			replies = append(replies, do(t, m, i%16, scan("", "")), do(t, m, i%16, commit), do(t, m, 3, swept))
		}
		if first == nil {
			first = replies
		}
		if !slices.EqualFunc(first, replies, sameReply) {
			t.Fatal("other replies")
		}
	}
}
