package sweep_test

import (
	"math/rand"
	"slices"
	"testing"

	"varve/api"
	"varve/store"
	"varve/sweep"
	"varve/word"
)

// seenAt is which versions of a node's chain somebody sees at a time, who has none of them; state is that of the transaction that the words of the chain name.
func seenAt(t *testing.T, s *store.Store, node int, at int64, state uint64) []int {
	t.Helper()
	var seen []int
	for _, v := range s.Chain(node) {
		begin, _ := s.Begin(v)
		end, _ := s.End(v)
		switch sees, e := word.Sees(0, at, begin, end, state, state); {
		case e != api.OK:
			t.Fatal(e)
		case sees == api.Unsure:
			seen = append(seen, -v)
		case sees == api.Seen:
			seen = append(seen, v)
		}
	}
	return seen
}

// ordered is a chain whose versions stand in order, of times up to 12; the newest may have an owner, as it has while it is written.
func ordered(r *rand.Rand) []version {
	var l []version
	at := uint64(r.Intn(3))
	for range r.Intn(6) {
		end := at + uint64(r.Intn(3))
		l = append(l, version{at, end})
		at = end + uint64(r.Intn(2)*r.Intn(3))
	}
	if len(l) > 0 && r.Intn(3) > 0 {
		l[len(l)-1].end = []uint64{never, lastTime, owner1}[r.Intn(3)]
	}
	if len(l) > 0 && l[len(l)-1].end == owner1 && r.Intn(2) == 0 {
		l = append(l, version{owner1, never})
	}
	slices.Reverse(l)
	return l
}

func state(t *testing.T, kind int, at int64) uint64 {
	t.Helper()
	w, e := word.State(kind, at)
	if e != api.OK {
		t.Fatal(e)
	}
	return w
}

// P15.5: at the mark or later each time sees what it saw, whatever has become of the transaction that is writing; a second sweep takes nothing away.
func TestWhoReadsSeesTheSame(t *testing.T) {
	times := []int64{0, 1, 2, 3, 4, 5, 6, 7, 8, 9, 10, 11, 12, 13, 14, 1<<40 - 2, 1<<40 - 1}
	states := []uint64{state(t, api.Active, 0), state(t, api.Aborted, 0), state(t, api.Preparing, 13), state(t, api.Committed, 13)}
	r := rand.New(rand.NewSource(15))
	took := 0
	for range 3000 {
		chain := ordered(r)
		mark := int64(r.Intn(15))
		s, _ := room(t, 100)
		n := nodeOf(t, s, chain...)
		before := s.Chain(n)
		var saw [][]int
		for _, at := range times {
			for _, st := range states {
				saw = append(saw, seenAt(t, s, n, at, st))
			}
		}
		took += swept(t, s, list(n), mark)
		for i, at := range times {
			for j, st := range states {
				if sees, saw := seenAt(t, s, n, at, st), saw[i*len(states)+j]; at >= mark && !slices.Equal(sees, saw) {
					t.Fatalf("%v at %d: at %d, state %x, was seen %v, is seen %v", chain, mark, at, st, saw, sees)
				}
			}
		}
		after := s.Chain(n)
		if again := swept(t, s, list(n), mark); again != 0 || !slices.Equal(s.Chain(n), after) || !slices.Equal(after, before[:len(after)]) {
			t.Fatalf("%v at %d: %v, then %v; a second sweep took %d: %v", chain, mark, before, after, again, s.Chain(n))
		}
	}
	if took < 1000 {
		t.Fatalf("only %d versions went", took)
	}
}

// P15.5: who reads at the watermark, or at a time of those that it was asked for, sees the same; and nothing is left that nobody sees, but what is to come.
func TestWatermarkAndSweep(t *testing.T) {
	for first := range int64(12) {
		s, a := room(t, 100)
		n := nodeOf(t, s, line(9)...)
		began := list(first+2, first, first+1)
		mark := sweep.Watermark(9, began)
		if mark != min(first, 9) {
			t.Fatal(mark)
		}
		var saw [][]int
		for _, at := range began {
			saw = append(saw, seenAt(t, s, n, at, 0))
		}
		used := a.Used()
		gone := swept(t, s, list(n), mark)
		for i, at := range began {
			if sees := seenAt(t, s, n, at, 0); !slices.Equal(sees, saw[i]) {
				t.Errorf("mark %d, at %d: was seen %v, is seen %v", mark, at, saw[i], sees)
			}
		}
		if want := max(0, int(mark)-1); gone != want || a.Used() != used-3*want {
			t.Errorf("mark %d: %d went, not %d; used %d of %d", mark, gone, want, a.Used(), used)
		}
	}
}
