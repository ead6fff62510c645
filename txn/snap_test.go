package txn_test

import (
	"fmt"
	"math/rand"
	"testing"

	"varve/api"
)

// P17.4: a Snap tells the rows as they were when it was called, whatever others do between its steps.
func TestSnapWhateverOthersDo(t *testing.T) {
	for seed := range int64(200) {
		r := rand.New(rand.NewSource(seed))
		rows := []api.Row{row("k01", "x", 3), row("k03", "x", 5), row("k05", "x", 4), row("k08", "x", 1)}
		m := memory(t, nil, rows...)
		c := crowd{story: newStory(m, rows), r: r, workers: 3, keys: 9, weight: 3, sweeps: true}
		s := m.Snap()
		if s.At() != 5 || s.Rows() != nil {
			t.Fatal(s.At(), s.Rows())
		}
		for done := false; !done; {
			for w := range 3 {
				c.burst(w, r.Intn(40))
			}
			if done = s.Step(); !done && s.Rows() != nil {
				t.Fatalf("rows %v ahead of the end", s.Rows())
			}
		}
		hasRows(t, s.Rows(), rows...)
		for range 3 {
			c.burst(0, 40)
			if !s.Step() || s.At() != 5 {
				t.Fatal("it is not done any more")
			}
		}
		hasRows(t, s.Rows(), rows...)
		if c.fault != nil {
			t.Fatal(c.fault)
		}
	}
}

// It waits for a commit that is under way with a timestamp that is not above its own, and for no other one.
func TestSnapWaitsForCommits(t *testing.T) {
	for _, mode := range []int{api.Optimistic, api.Pessimistic} {
		log := &scroll{}
		m := memory(t, log, row("a", "x", 3), row("b", "x", 3))
		early := m.Snap()
		fine(t, m, 0, beginOf(mode), update("a", "y"), insert("c", "y"))
		before := m.Snap()
		start(t, m, 0, commit)
		waits(t, m, 0, 50)
		behind := m.Snap()
		if before.At() != 3 || behind.At() != 4 {
			t.Fatal(before.At(), behind.At())
		}
		for range 1000 {
			early.Step()
			before.Step()
			if behind.Step() {
				t.Fatal("it does not wait")
			}
		}
		hasRows(t, early.Rows(), row("a", "x", 3), row("b", "x", 3))
		hasRows(t, before.Rows(), row("a", "x", 3), row("b", "x", 3))
		log.flushed = 1
		finish(t, m, 0)
		for range 1000 {
			behind.Step()
		}
		hasRows(t, behind.Rows(), row("a", "y", 4), row("b", "x", 3), row("c", "y", 4))
	}
}

// It waits for nobody who only writes, or has read.
func TestSnapWaitsForNobodyElse(t *testing.T) {
	m := memory(t, nil, row("a", "x", 3), row("b", "x", 3))
	fine(t, m, 0, pessimistic, update("a", "y"), remove("b"), insert("c", "y"))
	says(t, m, 0, scan("", ""), rowsOf("a", "y", "c", "y"))
	fine(t, m, 1, optimistic, insert("d", "y"))
	start(t, m, 1, commit) // it waits for 0
	waits(t, m, 1, 50)
	s, steps := m.Snap(), 1
	for !s.Step() {
		steps++
	}
	if steps > 1000+5*108 {
		t.Errorf("%d steps", steps)
	}
	hasRows(t, s.Rows(), row("a", "x", 3), row("b", "x", 3))
}

// A Snap of a table without rows; many at once, each at its own time.
func TestManySnaps(t *testing.T) {
	m := memory(t, nil)
	s := m.Snap()
	for !s.Step() {
	}
	hasRows(t, s.Rows())
	if s.At() != 0 {
		t.Error(s.At())
	}
	for i := range 40 {
		s := m.Snap()
		defer func() {
			for !s.Step() {
			}
			var want []api.Row
			for j := range i {
				want = append(want, row(fmt.Sprintf("%02d", j), "x", int64(j+1)))
			}
			hasRows(t, s.Rows(), want...)
			if s.At() != int64(i) {
				t.Error(s.At(), i)
			}
		}()
		fine(t, m, 0, optimistic, insert(fmt.Sprintf("%02d", i), "x"))
		says(t, m, 0, commit, at(int64(i+1)))
		do(t, m, 1, swept)
	}
}

// P17.3: Rows, while a commit is under way: none of it, or all, the latter at the latest when it is answered.
func TestRowsWhileACommitIsUnderWay(t *testing.T) {
	for _, mode := range []int{api.Optimistic, api.Pessimistic} {
		m := memory(t, &scroll{every: 3}, row("a", "x", 3), row("b", "x", 3), row("c", "x", 3))
		fine(t, m, 0, beginOf(mode), update("a", "y"), remove("b"), insert("d", "y"))
		start(t, m, 0, commit)
		for more := true; more; more = m.Step(0) {
			hasRows(t, m.Rows(3), row("a", "x", 3), row("b", "x", 3), row("c", "x", 3))
			switch rows := m.Rows(4); len(rows) {
			case 3:
				if rows[1].Key == "b" {
					hasRows(t, rows, row("a", "x", 3), row("b", "x", 3), row("c", "x", 3))
				} else {
					hasRows(t, rows, row("a", "y", 4), row("c", "x", 3), row("d", "y", 4))
				}
			default:
				t.Fatal(rows)
			}
		}
		m.Reply(0)
		hasRows(t, m.Rows(4), row("a", "y", 4), row("c", "x", 3), row("d", "y", 4))
	}
}
