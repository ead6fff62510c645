package txn_test

import (
	"fmt"
	"testing"

	"varve/api"
)

// program is what a worker asks for, one call behind the other, as long as it has a transaction.
type program []api.Call

// programs are some that are in one another's way.
func programs() map[string]program {
	return map[string]program{
		"reads a, writes b":         {get("a"), update("b", "1"), commit},
		"reads b, writes a":         {get("b"), update("a", "2"), commit},
		"updates both":              {update("a", "3"), update("b", "3"), commit},
		"updates both, b first":     {update("b", "4"), update("a", "4"), commit},
		"reads all, inserts":        {scan("", ""), insert("c", "5"), commit},
		"reads all, deletes":        {scan("", ""), remove("a"), commit},
		"inserts, deletes":          {insert("c", "6"), remove("c"), commit},
		"inserts twice":             {insert("c", "7"), insert("aa", "7"), commit},
		"deletes, and inserts anew": {remove("a"), insert("a", "8"), commit},
		"reads both":                {get("a"), get("b"), get("c"), commit},
		"reads all":                 {scan("", ""), scan("a", "c"), commit},
		"writes, and aborts":        {update("a", "9"), insert("c", "9"), abort},
	}
}

// play runs two programs: the first worker by so many steps, then the second one by so many, then the first one again, then both by turns until all is done.
func play(t *testing.T, modes [2]int, both [2]program, first, second int) {
	t.Helper()
	rows := []api.Row{row("a", "x", 3), row("b", "y", 4)}
	s := newStory(memory(t, nil, rows...), rows)
	var at [2]int
	step := func(w int) bool {
		if !s.under[w] {
			switch {
			case at[w] == 0:
				s.start(w, beginOf(modes[w]))
			case at[w] > len(both[w]) || s.open[w] == nil:
				return false
			default:
				s.start(w, both[w][at[w]-1])
			}
			at[w]++
		}
		s.step(w)
		return s.fault == nil
	}
	for range first {
		step(0)
	}
	for range second {
		step(1)
	}
	for range first + 60 {
		step(0)
	}
	for more := true; more; {
		a, b := step(0), step(1)
		more = a || b
	}
	all := s.check(t)
	hasRows(t, s.m.Rows(last), all.tables[len(all.tables)-1].rows()...)
	if s.do(0, swept); s.m.Versions() != len(s.m.Rows(last)) {
		t.Fatalf("%d versions are left", s.m.Versions())
	}
}

// P17.6: each two of the programs, wherever the one comes between the other's steps, and goes from there.
func TestOrdersOfTwo(t *testing.T) {
	for one, a := range programs() {
		for two, b := range programs() {
			for modes := range 4 {
				t.Run(fmt.Sprint(one, "; ", two, "; ", modes), func(t *testing.T) {
					t.Parallel()
					for first := 0; first < 45; first += 3 {
						for _, second := range []int{1 + first%3, 8 + first%5, 16 + first%7, 30, 60} {
							play(t, [2]int{1 + modes%2, 1 + modes/2}, [2]program{a, b}, first, second)
						}
					}
				})
			}
		}
	}
}
