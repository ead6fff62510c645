package txn_test

import (
	"fmt"
	"math/rand"
	"slices"
	"testing"

	"varve/api"
	"varve/txn"
)

// conflicts: a call aborts its transaction at once, without a long wait.
func conflicts(t *testing.T, m *txn.Memory, w int, c api.Call) {
	t.Helper()
	start(t, m, w, c)
	steps := 0
	for m.Step(w) {
		steps++
	}
	if r, is := m.Reply(w); !is || !sameReply(r, code(api.ErrTxnConflict)) || m.Has(w) || steps > 1000 {
		t.Fatalf("worker %d: %v: %v, in %d steps", w, c, r, steps)
	}
}

// An optimistic one reads what was committed when it began.
func TestOptimisticReadsAsItBegan(t *testing.T) {
	m := memory(t, nil, row("a", "x", 3), row("b", "x", 3))
	fine(t, m, 0, optimistic)
	for i, mode := range []int{api.Optimistic, api.Pessimistic} {
		fine(t, m, 1, beginOf(mode), update("a", fmt.Sprint(i)))
		says(t, m, 0, get("a"), found("x"))
		says(t, m, 1, commit, at(int64(4+i)))
		says(t, m, 0, get("a"), found("x"))
	}
	fine(t, m, 1, optimistic, remove("b"), insert("c", "x"))
	says(t, m, 1, commit, at(6))
	says(t, m, 0, scan("", ""), rowsOf("a", "x", "b", "x"))
	says(t, m, 0, get("c"), api.Reply{})
	says(t, m, 0, update("c", "y"), code(api.ErrTxnMissing))
	says(t, m, 0, insert("b", "y"), code(api.ErrTxnHas))
	fine(t, m, 0, abort)
}

// A pessimistic one reads what is committed when it reads.
func TestPessimisticReadsWhatIs(t *testing.T) {
	m := memory(t, nil, row("a", "x", 3), row("b", "x", 3))
	fine(t, m, 0, pessimistic)
	fine(t, m, 1, optimistic, update("a", "y"), remove("b"), insert("c", "y"))
	says(t, m, 1, commit, at(4))
	says(t, m, 0, get("a"), found("y"))
	says(t, m, 0, scan("", ""), rowsOf("a", "y", "c", "y"))
	fine(t, m, 0, update("a", "z"), insert("b", "z"))
	says(t, m, 0, commit, at(5))
	hasRows(t, m.Rows(5), row("a", "z", 5), row("b", "z", 5), row("c", "y", 4))
}

// An optimistic one is aborted, when it writes a key that another one has written, and not yet ended.
func TestOptimisticWritesWhatIsWritten(t *testing.T) {
	deeds := map[string][]api.Call{
		"updated":               {update("a", "y")},
		"deleted":               {remove("a")},
		"deleted, inserted":     {remove("a"), insert("a", "y")},
		"updated, deleted":      {update("a", "y"), remove("a")},
		"all of it":             {update("a", "y"), remove("a"), insert("a", "z"), update("a", "y"), remove("a")},
		"inserted":              {insert("b", "y")},
		"inserted, deleted":     {insert("b", "y"), remove("b")},
		"inserted, and anew":    {insert("b", "y"), remove("b"), insert("b", "z")},
		"inserted, and updated": {insert("b", "y"), update("b", "z")},
	}
	for name, calls := range deeds {
		for _, mode := range []int{api.Optimistic, api.Pessimistic} {
			for _, other := range []int{api.Optimistic, api.Pessimistic} {
				if mode == api.Pessimistic && other == api.Pessimistic {
					continue // it waits
				}
				m := memory(t, nil, row("a", "x", 3))
				fine(t, m, 0, beginOf(mode))
				fine(t, m, 0, calls...)
				var c api.Call
				if key := calls[0].Key; key == "b" {
					c = insert("b", "q")
				} else {
					c = update("a", "q")
				}
				fine(t, m, 1, beginOf(other))
				t.Log(name, mode, other)
				conflicts(t, m, 1, c)
				says(t, m, 0, commit, at(4))
				fine(t, m, 1, pessimistic)
				says(t, m, 1, scan("", ""), withoutTimes(m.Rows(4)))
			}
		}
	}
}

func withoutTimes(rows []api.Row) api.Reply {
	for i := range rows {
		rows[i].Time = 0
	}
	return api.Reply{Rows: rows}
}

// .. or committed since.
func TestOptimisticWritesWhatWasWrittenSince(t *testing.T) {
	for _, mode := range []int{api.Optimistic, api.Pessimistic} {
		for _, c := range []struct{ first, second api.Call }{
			{update("a", "y"), update("a", "z")},
			{update("a", "y"), remove("a")},
			{remove("a"), update("a", "z")},
			{remove("a"), remove("a")},
			{insert("b", "y"), insert("b", "z")},
		} {
			m := memory(t, nil, row("a", "x", 3))
			fine(t, m, 0, optimistic)
			fine(t, m, 1, beginOf(mode), c.first)
			says(t, m, 1, commit, at(4))
			rows := m.Rows(4)
			conflicts(t, m, 0, c.second)
			hasRows(t, m.Rows(4), rows...)
		}
	}
}

// What an aborted one has written is in nobody's way.
func TestAbortedWritesAreNone(t *testing.T) {
	for _, mode := range []int{api.Optimistic, api.Pessimistic} {
		m := memory(t, nil, row("a", "x", 3), row("c", "x", 3))
		fine(t, m, 0, optimistic)
		fine(t, m, 1, beginOf(mode), update("a", "y"), insert("b", "y"), remove("c"), remove("b"), insert("b", "w"), insert("d", ""), remove("d"), abort)
		hasVersions(t, m, 2)
		says(t, m, 0, scan("", ""), rowsOf("a", "x", "c", "x"))
		fine(t, m, 0, update("a", "z"), insert("b", "z"), remove("c"), insert("d", "z"))
		says(t, m, 0, commit, at(4))
		hasRows(t, m.Rows(4), row("a", "z", 4), row("b", "z", 4), row("d", "z", 4))
	}
}

// An optimistic one is aborted, when it commits, and what it has read would be other then.
func TestOptimisticReadsAreLookedAt(t *testing.T) {
	x := row("b", "x", 3)
	for _, c := range []struct {
		name  string
		reads api.Call
		other api.Call
		fails bool
	}{
		{"a value", get("b"), update("b", "y"), true},
		{"the same value", get("b"), update("b", "x"), false},
		{"no more", get("b"), remove("b"), true},
		{"not yet", get("c"), insert("c", "y"), true},
		{"another one", get("b"), insert("c", "y"), false},
		{"in the way of an insert", insert("b", "z"), remove("b"), true},
		{"in the way of an insert, still", insert("b", "z"), update("b", "y"), false},
		{"in the way of an update", update("c", "z"), insert("c", "y"), true},
		{"in the way of a delete", remove("c"), insert("c", "y"), true},
		{"in the way of a delete, another one", remove("c"), insert("d", "y"), false},
		{"all", scan("", ""), update("b", "y"), true},
		{"all, no more", scan("", ""), remove("b"), true},
		{"all, another one ahead", scan("", ""), insert("a", "y"), true},
		{"all, another one behind", scan("", ""), insert("z", "y"), true},
		{"from b on, b", scan("b", ""), update("b", "y"), true},
		{"from b on, ahead of it", scan("b", ""), insert("a\xff", "y"), false},
		{"from b on, right behind it", scan("b", ""), insert("b\x00", "y"), true},
		{"up to b", scan("", "b"), update("b", "y"), false},
		{"up to b, ahead of it", scan("", "b"), insert("a\xff", "y"), true},
		{"an empty range", scan("c", "b"), insert("bb", "y"), false},
		{"the range of no key", scan("b", "b"), update("b", "y"), false},
	} {
		for _, mode := range []int{api.Optimistic, api.Pessimistic} {
			for _, writes := range []bool{false, true} {
				m := memory(t, nil, x)
				fine(t, m, 0, optimistic)
				do(t, m, 0, c.reads)
				fine(t, m, 1, beginOf(mode), c.other)
				says(t, m, 1, commit, at(4))
				if writes {
					fine(t, m, 0, insert("q", "z"))
				}
				r := do(t, m, 0, commit)
				if want := (r.Code == api.ErrTxnConflict); want != c.fails || !want && r.Code != api.OK {
					t.Errorf("%s: %v", c.name, r)
				}
				if m.Has(0) || m.Drawn(0) != 0 {
					t.Errorf("%s: it has a transaction", c.name)
				}
			}
		}
	}
}

// What it has read of its own is no matter.
func TestOptimisticReadsItsOwn(t *testing.T) {
	m := memory(t, nil, row("a", "x", 3))
	fine(t, m, 0, optimistic)
	says(t, m, 0, get("a"), found("x"))
	says(t, m, 0, scan("", ""), rowsOf("a", "x"))
	says(t, m, 0, get("b"), api.Reply{})
	fine(t, m, 0, update("a", "y"), insert("b", "y"))
	says(t, m, 0, get("a"), found("y"))
	says(t, m, 0, scan("", ""), rowsOf("a", "y", "b", "y"))
	fine(t, m, 0, remove("a"), remove("b"))
	says(t, m, 0, get("a"), api.Reply{})
	says(t, m, 0, scan("", ""), api.Reply{})
	says(t, m, 0, insert("a", ""), api.Reply{})
	says(t, m, 0, get("a"), found(""))
	says(t, m, 0, commit, at(4))
	hasRows(t, m.Rows(4), row("a", "", 4))
}

// A pessimistic one holds what it has read: so nobody commits another write of it ahead of its end. The other one is told when it would write, if it is pessimistic, else when it commits.
func TestWhatIsReadIsHeld(t *testing.T) {
	for _, c := range []struct {
		name  string
		reads api.Call
		other api.Call
		waits bool
	}{
		{"a key", get("b"), update("b", "y"), true},
		{"a key that goes", get("b"), remove("b"), true},
		{"no key", get("c"), insert("c", "y"), true},
		{"another one", get("c"), update("b", "y"), false},
		{"has", insert("b", ""), update("b", "y"), true},
		{"missing for an update", update("c", ""), insert("c", "y"), true},
		{"missing for a delete", remove("c"), insert("c", "y"), true},
		{"all", scan("", ""), insert("zz", "y"), true},
		{"all, a key", scan("", ""), remove("b"), true},
		{"from b on, b", scan("b", ""), update("b", "y"), true},
		{"from b on, behind it", scan("b", ""), insert("b\x00", "y"), true},
		{"from b on, ahead of it", scan("b", ""), insert("a\xff", "y"), false},
		{"up to b", scan("", "b"), update("b", "y"), false},
		{"up to b, ahead of it", scan("", "b"), insert("a", "y"), true},
		{"an empty range", scan("c", "a"), update("b", "y"), false},
	} {
		for _, mode := range []int{api.Optimistic, api.Pessimistic} {
			for _, end := range []api.Call{commit, abort} {
				t.Log(c.name, mode, end)
				m := memory(t, nil, row("b", "x", 3))
				fine(t, m, 0, pessimistic)
				want := do(t, m, 0, c.reads)
				fine(t, m, 1, beginOf(mode))
				last := c.other
				if mode == api.Optimistic {
					fine(t, m, 1, last)
					last = commit
				}
				start(t, m, 1, last)
				if c.waits {
					waits(t, m, 1, 500)
					if r := do(t, m, 0, c.reads); !sameReply(r, want) {
						t.Fatal(r, want)
					}
					do(t, m, 0, end)
				}
				if r := finish(t, m, 1); r.Code != api.OK {
					t.Fatal(r)
				}
				if mode == api.Pessimistic {
					do(t, m, 1, commit)
				}
				if !c.waits {
					if r := do(t, m, 0, c.reads); !sameReply(r, want) {
						t.Fatal(r, want)
					}
					fine(t, m, 0, abort)
				}
			}
		}
	}
}

// Those who read hold together; what is written is held alone.
func TestPessimisticReadersAndWriters(t *testing.T) {
	m := memory(t, nil, row("a", "x", 3))
	for w := range 15 {
		fine(t, m, w, pessimistic)
		says(t, m, w, get("a"), found("x"))
		says(t, m, w, scan("", ""), rowsOf("a", "x"))
		says(t, m, w, insert("a", "y"), code(api.ErrTxnHas))
		says(t, m, w, get("b"), api.Reply{})
	}
	fine(t, m, 15, pessimistic)
	start(t, m, 15, update("a", "y"))
	for w := range 15 {
		waits(t, m, 15, 50)
		do(t, m, w, []api.Call{commit, abort}[w%2])
	}
	if r := finish(t, m, 15); r.Code != api.OK {
		t.Fatal(r)
	}
	for w, c := range []api.Call{get("a"), scan("", ""), insert("a", "z"), update("a", "z"), remove("a"), scan("a", "b")} {
		fine(t, m, w, pessimistic)
		start(t, m, w, c)
		waits(t, m, w, 50)
	}
	// A range without it is in nobody's way.
	fine(t, m, 7, pessimistic)
	says(t, m, 7, scan("b", ""), api.Reply{})
	says(t, m, 15, commit, at(12))
	for w, want := range []api.Reply{found("y"), rowsOf("a", "y"), code(api.ErrTxnHas)} {
		if r := finish(t, m, w); !sameReply(r, want) {
			t.Error(w, r)
		}
	}
}

// A pessimistic writer whose key was aborted goes on with what was there.
func TestWaitingForOneThatAborts(t *testing.T) {
	m := memory(t, nil, row("a", "x", 3))
	fine(t, m, 0, pessimistic, remove("a"), insert("b", "y"))
	fine(t, m, 1, pessimistic)
	start(t, m, 1, get("a"))
	fine(t, m, 2, pessimistic)
	start(t, m, 2, insert("b", "z"))
	waits(t, m, 1, 60)
	waits(t, m, 2, 60)
	fine(t, m, 0, abort)
	if r := finish(t, m, 1); !sameReply(r, found("x")) {
		t.Error(r)
	}
	if r := finish(t, m, 2); !sameReply(r, api.Reply{}) {
		t.Error(r)
	}
}

// DOC.md's fourth example; the optimistic one's write is seen by nobody ahead of its commit.
func TestOptimisticCommitWaits(t *testing.T) {
	m := memory(t, nil, row("a", "x", 3))
	fine(t, m, 0, pessimistic)
	says(t, m, 0, get("a"), found("x"))
	fine(t, m, 1, optimistic, update("a", "y"))
	start(t, m, 1, commit)
	waits(t, m, 1, 5000)
	if m.Drawn(1) != 0 || m.Now() != 3 {
		t.Error(m.Drawn(1), m.Now())
	}
	says(t, m, 0, get("a"), found("x"))
	fine(t, m, 2, pessimistic)
	says(t, m, 2, get("a"), found("x"))
	says(t, m, 0, commit, at(4))
	waits(t, m, 1, 500)
	says(t, m, 2, commit, at(5))
	if r := finish(t, m, 1); !sameReply(r, at(6)) {
		t.Error(r)
	}
}

// Where an optimistic one has written a key, and has not ended, a pessimistic one that would write it is aborted: also when the optimistic one commits, and waits.
func TestPessimisticWritesWhatAnOptimisticOneHas(t *testing.T) {
	for _, commits := range []bool{false, true} {
		m := memory(t, nil, row("a", "x", 3), row("b", "x", 3), row("c", "x", 3))
		fine(t, m, 0, pessimistic)
		says(t, m, 0, get("b"), found("x"))
		fine(t, m, 1, optimistic, update("a", "y"), update("b", "y"), update("c", "y"))
		if commits {
			start(t, m, 1, commit)
			waits(t, m, 1, 100)
		}
		for _, key := range []string{"a", "b", "c"} {
			fine(t, m, 2, pessimistic)
			conflicts(t, m, 2, update(key, "z"))
		}
		conflicts(t, m, 0, update("b", "z"))
		if !commits {
			start(t, m, 1, commit)
		}
		if r := finish(t, m, 1); !sameReply(r, at(4)) {
			t.Error(r)
		}
	}
}

// One that has waited long is aborted, but not ahead of 6000 steps.
func TestWaitingLong(t *testing.T) {
	for _, c := range []struct {
		name   string
		holds  api.Call
		mode   int
		ahead  []api.Call
		waiter api.Call
	}{
		{"to read", update("a", "y"), api.Pessimistic, nil, get("a")},
		{"to read all", update("a", "y"), api.Pessimistic, nil, scan("", "")},
		{"to write", get("a"), api.Pessimistic, nil, update("a", "z")},
		{"to write into a range", scan("", ""), api.Pessimistic, nil, insert("b", "z")},
		{"to write what is written", remove("a"), api.Pessimistic, nil, insert("a", "z")},
		{"to commit", get("a"), api.Optimistic, []api.Call{update("a", "z")}, commit},
	} {
		t.Log(c.name)
		m := memory(t, nil, row("a", "x", 3))
		fine(t, m, 0, pessimistic)
		do(t, m, 0, c.holds)
		fine(t, m, 1, beginOf(c.mode))
		fine(t, m, 1, c.ahead...)
		start(t, m, 1, c.waiter)
		waits(t, m, 1, 6000)
		steps := 0
		for m.Step(1) {
			steps++
		}
		if r, is := m.Reply(1); !is || !sameReply(r, code(api.ErrTxnConflict)) || steps > 15000 || m.Has(1) {
			t.Errorf("%s: %v behind %d steps more", c.name, r, steps)
		}
		says(t, m, 0, get("none"), api.Reply{})
		says(t, m, 0, commit, at(4))
	}
}

// ring lets workers wait for one another: each has read a key, and would write the next one's. They are stepped in an order, again and again: how each is answered.
func ring(t *testing.T, workers, turns []int) map[int]api.Reply {
	t.Helper()
	var rows []api.Row
	for i := range workers {
		rows = append(rows, row(fmt.Sprintf("k%02d", i), "x", 1))
	}
	m := memory(t, nil, rows...)
	for i, w := range workers {
		fine(t, m, w, pessimistic)
		says(t, m, w, get(fmt.Sprintf("k%02d", i)), found("x"))
	}
	for i, w := range workers {
		start(t, m, w, update(fmt.Sprintf("k%02d", (i+1)%len(workers)), "y"))
	}
	replies := map[int]api.Reply{}
	for range 3000 {
		for _, w := range turns {
			m.Step(w)
			if r, is := m.Reply(w); is {
				replies[w] = r
				if m.Has(w) {
					start(t, m, w, commit)
				}
			}
		}
	}
	for _, w := range workers {
		if m.Has(w) {
			t.Errorf("workers %v: %d is not answered", workers, w)
		}
	}
	return replies
}

// Those that wait in a cycle: the youngest goes, and no other one, whoever begins to wait last.
func TestOneGoesOfACycle(t *testing.T) {
	r := rand.New(rand.NewSource(5))
	for n := 2; n <= 16; n++ {
		for range 6 {
			workers := r.Perm(16)[:n]
			turns := slices.Clone(workers)
			r.Shuffle(n, func(i, j int) { turns[i], turns[j] = turns[j], turns[i] })
			for w, reply := range ring(t, workers, turns) {
				want := api.OK
				if w == workers[n-1] { // it began last
					want = api.ErrTxnDeadlock
				}
				if reply.Code != want {
					t.Errorf("workers %v, turns %v: %d is answered %v", workers, turns, w, reply)
				}
			}
		}
	}
}

// It goes at its next step, and not without one.
func TestItGoesAtItsNextStep(t *testing.T) {
	for _, older := range []int{0, 1} {
		younger := 1 - older
		m := memory(t, nil, row("a", "x", 3), row("b", "x", 3))
		fine(t, m, older, pessimistic)
		fine(t, m, younger, pessimistic)
		says(t, m, older, get("a"), found("x"))
		says(t, m, younger, get("b"), found("x"))
		start(t, m, younger, update("a", "y"))
		waits(t, m, younger, 500)
		start(t, m, older, update("b", "y"))
		waits(t, m, older, 500)
		if !m.Step(younger) {
			t.Fatal("no step")
		}
		if r, is := m.Reply(younger); !is || !sameReply(r, code(api.ErrTxnDeadlock)) || m.Has(younger) {
			t.Fatal(r, is)
		}
		if r := finish(t, m, older); !sameReply(r, api.Reply{}) {
			t.Fatal(r)
		}
		says(t, m, older, commit, at(4))
		hasRows(t, m.Rows(4), row("a", "x", 3), row("b", "y", 4))
	}
}

// A cycle of ranges, of one that has written, and of an optimistic one that commits.
func TestCyclesOfAllSorts(t *testing.T) {
	m := memory(t, nil, row("a", "x", 3), row("b", "x", 3))
	fine(t, m, 0, pessimistic)
	fine(t, m, 1, pessimistic)
	says(t, m, 0, scan("", ""), rowsOf("a", "x", "b", "x"))
	says(t, m, 1, scan("a", "c"), rowsOf("a", "x", "b", "x"))
	start(t, m, 0, insert("aa", "y"))
	waits(t, m, 0, 100)
	says(t, m, 1, insert("aaa", "y"), code(api.ErrTxnDeadlock))
	if r := finish(t, m, 0); !sameReply(r, api.Reply{}) {
		t.Fatal(r)
	}
	says(t, m, 0, commit, at(4))

	fine(t, m, 0, pessimistic, update("a", "p"))
	fine(t, m, 1, pessimistic, update("b", "p"))
	start(t, m, 0, get("b"))
	waits(t, m, 0, 100)
	says(t, m, 1, get("a"), code(api.ErrTxnDeadlock))
	if r := finish(t, m, 0); !sameReply(r, found("x")) {
		t.Fatal(r)
	}
	says(t, m, 0, commit, at(5))

	for _, first := range []int{0, 1} { // the pessimistic one is the older one, or the younger one
		m = memory(t, nil, row("a", "x", 3), row("b", "x", 3))
		for _, w := range []int{first, 1 - first} {
			fine(t, m, w, beginOf(1+w))
		}
		says(t, m, 1, get("b"), found("x"))
		fine(t, m, 0, update("a", "p"), update("b", "p"))
		start(t, m, 0, commit)
		waits(t, m, 0, 100)
		start(t, m, 1, get("a"))
		var replies [2]api.Reply
		var is [2]bool
		for range 5000 {
			for w := range 2 {
				m.Step(w)
				if r, answered := m.Reply(w); answered {
					replies[w], is[w] = r, true
				}
			}
		}
		switch goes := 1 - first; {
		case is[goes] && replies[goes].Code != api.ErrTxnDeadlock:
			t.Errorf("%d is younger: %v", goes, replies)
		case goes == 0 && !sameReply(replies[1], found("x")):
			t.Errorf("the pessimistic one: %v", replies)
		case goes == 1 && !sameReply(replies[0], at(4)):
			t.Errorf("the optimistic one: %v", replies)
		}
	}
}

// Two cycles that share one: each is broken, by the youngest of each.
func TestTwoCycles(t *testing.T) {
	for order := range 4 {
		m := memory(t, nil, row("a", "x", 1), row("b", "x", 1), row("c", "x", 1))
		for w := range 3 {
			fine(t, m, w, pessimistic)
		}
		// 0 waits for 1 and 2, each of which waits for 0.
		says(t, m, 0, get("a"), found("x"))
		for w := 1; w < 3; w++ {
			says(t, m, w, get("b"), found("x"))
		}
		start(t, m, 0, update("b", "y"))
		waits(t, m, 0, 30)
		turns := [][]int{{0, 1, 2}, {0, 2, 1}, {1, 2, 0}, {2, 1, 0}}[order]
		for w := 1; w < 3; w++ {
			start(t, m, w, update("a", "y"))
		}
		replies := map[int]api.Reply{}
		for range 500 {
			for _, w := range turns {
				m.Step(w)
				if r, is := m.Reply(w); is {
					replies[w] = r
				}
			}
		}
		if replies[0].Code != api.OK || replies[1].Code != api.ErrTxnDeadlock || replies[2].Code != api.ErrTxnDeadlock {
			t.Errorf("turns %v: %v", turns, replies)
		}
	}
}

// Who has written a key may write it again, though others wait to read it, and all around it.
func TestWritingAgain(t *testing.T) {
	m := memory(t, nil, row("a", "x", 1), row("b", "x", 1))
	fine(t, m, 0, pessimistic, update("b", "y"))
	for w, c := range []api.Call{get("b"), scan("", ""), scan("b", ""), update("b", "z")} {
		fine(t, m, w+1, pessimistic)
		start(t, m, w+1, c)
		waits(t, m, w+1, 100)
	}
	fine(t, m, 0, update("b", "1"), remove("b"), insert("b", "2"), update("b", "3"))
	says(t, m, 0, commit, at(2))
	hasRows(t, m.Rows(2), row("a", "x", 1), row("b", "3", 2))
	for w, want := range []api.Reply{found("3"), rowsOf("a", "x", "b", "3"), rowsOf("b", "3")} {
		if r := finish(t, m, w+1); !sameReply(r, want) {
			t.Error(r)
		}
		says(t, m, w+1, commit, at(int64(w+3)))
	}
	if r := finish(t, m, 4); !sameReply(r, api.Reply{}) {
		t.Error(r)
	}
}

// One that waits for one in a cycle, and is in none itself, does not go.
func TestWhoIsBesideACycle(t *testing.T) {
	m := memory(t, nil, row("a", "x", 1), row("b", "x", 1))
	for w := range 3 {
		fine(t, m, w, pessimistic)
	}
	says(t, m, 0, get("a"), found("x"))
	says(t, m, 1, get("b"), found("x"))
	start(t, m, 2, update("a", "z")) // the youngest of all
	waits(t, m, 2, 100)
	start(t, m, 0, update("b", "y"))
	waits(t, m, 0, 100)
	start(t, m, 1, update("a", "y"))
	waits(t, m, 2, 100)
	if r := finish(t, m, 1); !sameReply(r, code(api.ErrTxnDeadlock)) {
		t.Fatal(r)
	}
	waits(t, m, 2, 100)
	if r := finish(t, m, 0); !sameReply(r, api.Reply{}) {
		t.Fatal(r)
	}
	says(t, m, 0, commit, at(2))
	if r := finish(t, m, 2); !sameReply(r, api.Reply{}) {
		t.Fatal(r)
	}
	says(t, m, 2, commit, at(3))
}

// A worker that has waited, and whose transaction is over, waits for nobody: its next one is in no cycle that is none.
func TestNoCycleOfThePast(t *testing.T) {
	m := memory(t, nil, row("a", "x", 1), row("b", "x", 1))
	fine(t, m, 0, pessimistic)
	says(t, m, 0, get("a"), found("x"))
	fine(t, m, 1, pessimistic)
	start(t, m, 1, update("a", "y"))
	waits(t, m, 1, 100) // for 0
	says(t, m, 0, commit, at(2))
	// 1 does not know yet that 0 is gone; 0 waits for 1 in another transaction.
	fine(t, m, 2, pessimistic, update("b", "z"))
	fine(t, m, 0, pessimistic)
	start(t, m, 0, get("b"))
	waits(t, m, 0, 100)
	if r := finish(t, m, 1); !sameReply(r, api.Reply{}) {
		t.Fatal(r)
	}
	start(t, m, 1, get("b"))
	waits(t, m, 1, 100)
	waits(t, m, 0, 100)
	says(t, m, 2, commit, at(3))
	for _, w := range []int{0, 1} {
		if r := finish(t, m, w); !sameReply(r, found("z")) {
			t.Error(w, r)
		}
	}
}

// P17.2, P17.4: a sweep leaves what a transaction may still read, and takes away what nobody can.
func TestSweepsAndReaders(t *testing.T) {
	for _, mode := range []int{api.Optimistic, api.Pessimistic} {
		m := memory(t, nil, row("a", "0", 0))
		change := func(w int, val string) {
			fine(t, m, w, optimistic, update("a", val))
			do(t, m, w, commit)
		}
		change(1, "1")
		change(1, "2")
		fine(t, m, 0, beginOf(mode)) // at 2
		change(1, "3")
		change(1, "4")
		s := m.Snap() // at 4
		change(1, "5")
		change(1, "6")
		says(t, m, 1, swept, api.Reply{N: 2})
		hasVersions(t, m, 5)
		for time := int64(2); time < 7; time++ {
			hasRows(t, m.Rows(time), row("a", fmt.Sprint(time), time))
		}
		if mode == api.Optimistic {
			says(t, m, 0, get("a"), found("2"))
		}
		fine(t, m, 0, abort)
		says(t, m, 1, swept, api.Reply{N: 2})
		hasRows(t, m.Rows(4), row("a", "4", 4))
		for !s.Step() {
			says(t, m, 1, swept, api.Reply{})
		}
		hasRows(t, s.Rows(), row("a", "4", 4))
		says(t, m, 1, swept, api.Reply{N: 2})
		hasVersions(t, m, 1)
		// What is deleted, and what was put in and deleted, goes whole.
		fine(t, m, 1, optimistic, remove("a"), insert("b", ""), remove("b"))
		says(t, m, 1, commit, at(7))
		says(t, m, 1, swept, api.Reply{N: 1})
		hasVersions(t, m, 0)
		says(t, m, 1, swept, api.Reply{})
		hasRows(t, m.Rows(7))
	}
}
