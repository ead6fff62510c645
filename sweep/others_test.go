package sweep_test

import (
	"fmt"
	"math/rand"
	"slices"
	"testing"

	"varve/api"
	"varve/store"
	"varve/sweep"
)

// watch is a sweep that is looked at from outside: which versions have not stayed at some time since it began, and how many went by its steps.
type watch struct {
	s     *store.Store
	op    *sweep.Op
	nodes []int
	mark  int64
	mayGo map[int]bool
	gone  int
}

func watched(s *store.Store, nodes []int, mark int64) *watch {
	return &watch{s: s, op: sweep.Begin(s, nodes, mark), nodes: nodes, mark: mark, mayGo: map[int]bool{}}
}

// note is called whenever others have done something.
func (w *watch) note() {
	for _, n := range w.nodes {
		var begins, ends []uint64
		chain := w.s.Chain(n)
		for _, v := range chain {
			begin, _ := w.s.Begin(v)
			end, _ := w.s.End(v)
			begins, ends = append(begins, begin), append(ends, end)
		}
		for _, v := range chain[plainKeep(begins, ends, w.mark):] {
			w.mayGo[v] = true
		}
	}
}

// there are the versions up to a number that there are, each with its words and its value.
func there(s *store.Store, last int) map[int]string {
	is := map[int]string{}
	for v := 1; v <= last; v++ {
		if _, e := s.Val(v); e == api.OK {
			is[v] = versionFacts(s, v)
		}
	}
	return is
}

// step does one, and looks what has gone by it, of the versions up to a number: an error, if it may not have.
func (w *watch) step(last int) (bool, error) {
	before := there(w.s, last)
	done := w.op.Step()
	after := there(w.s, last)
	for v, was := range before {
		is, stays := after[v]
		switch {
		case stays && is != was:
			return done, fmt.Errorf("version %d was %s, is %s", v, was, is)
		case !stays && !w.mayGo[v]:
			return done, fmt.Errorf("version %d went, %s", v, was)
		case !stays:
			w.gone++
		}
	}
	if n, e := w.op.Gone(); done && (n != w.gone || e != api.OK) || !done && (n != 0 || e != api.ErrArg) {
		return done, fmt.Errorf("done %t, %d went: Gone answers %d, %v", done, w.gone, n, e)
	}
	return done, nil
}

// deed is what another one does to a node between two steps.
type deed struct {
	what string
	do   func(t *testing.T, s *store.Store, node int)
}

// at is the version at a place of a node's chain; 0, which is none, behind its end.
func at(s *store.Store, node, place int) int {
	if chain := s.Chain(node); place < len(chain) {
		return chain[place]
	}
	return 0
}

func pushed(versions ...version) func(*testing.T, *store.Store, int) {
	return func(t *testing.T, s *store.Store, node int) {
		for _, v := range versions {
			push(t, s, node, v)
		}
	}
}

func words(place int, begin, end uint64) func(*testing.T, *store.Store, int) {
	return func(t *testing.T, s *store.Store, node int) {
		s.SetBegin(at(s, node, place), begin)
		s.SetEnd(at(s, node, place), end)
	}
}

// deeds are for sweeps at 6.
func deeds() []deed {
	all := []deed{
		{"nothing", func(*testing.T, *store.Store, int) {}},
		{"one is pushed that begins above the mark", pushed(version{10, never})},
		{"one is pushed that begins at the mark", pushed(version{6, never})},
		{"one is pushed that begins below the mark", pushed(version{5, never})},
		{"one is pushed that is over at the mark", pushed(version{5, 6})},
		{"one is pushed that has an owner", pushed(version{owner1, never})},
		{"several are pushed", pushed(version{10, 11}, version{11, 12}, version{owner1, never})},
		{"an update begins", func(t *testing.T, s *store.Store, node int) {
			s.TakeEnd(at(s, node, 0), never, owner1)
			push(t, s, node, version{owner1, never})
		}},
		{"an update is done", func(t *testing.T, s *store.Store, node int) {
			s.TakeEnd(at(s, node, 0), never, 10)
			push(t, s, node, version{10, never})
		}},
		{"an update at the mark is done", func(t *testing.T, s *store.Store, node int) {
			s.TakeEnd(at(s, node, 0), never, 6)
			push(t, s, node, version{6, never})
		}},
		{"a delete is done", func(t *testing.T, s *store.Store, node int) {
			s.TakeEnd(at(s, node, 0), never, owner1)
			s.SetEnd(at(s, node, 0), 7)
		}},
		{"the newest is dropped", func(t *testing.T, s *store.Store, node int) { s.Drop(node) }},
		{"the newest two are dropped", func(t *testing.T, s *store.Store, node int) { s.Drop(node); s.Drop(node) }},
		{"all are dropped", func(t *testing.T, s *store.Store, node int) {
			for s.Drop(node) == api.OK {
			}
		}},
		{"all are dropped, and one is pushed", func(t *testing.T, s *store.Store, node int) {
			for s.Drop(node) == api.OK {
			}
			push(t, s, node, version{10, never})
		}},
		{"the newest is dropped, and another one pushed", func(t *testing.T, s *store.Store, node int) {
			s.Drop(node)
			push(t, s, node, version{10, never})
		}},
		{"a lock is taken", func(t *testing.T, s *store.Store, node int) { s.TakeLock(node, 0, 9) }},
		{"a transaction comes and goes", func(t *testing.T, s *store.Store, node int) {
			txn, _ := s.Txn()
			s.Forget(txn)
		}},
		{"a node is made", func(t *testing.T, s *store.Store, node int) { nodeOf(t, s, version{2, 3}, version{1, 2}) }},
		{"another node has the chain, too, and goes on with it", func(t *testing.T, s *store.Store, node int) {
			other, _ := s.Node()
			s.Push(other, 0, at(s, node, 1))
			push(t, s, other, version{10, never})
		}},
		{"another sweep at the mark", func(t *testing.T, s *store.Store, node int) { swept(t, s, list(node), 6) }},
		{"another sweep at a lower mark", func(t *testing.T, s *store.Store, node int) { swept(t, s, list(node), 3) }},
		{"another sweep at a higher mark", func(t *testing.T, s *store.Store, node int) { swept(t, s, list(node), 100) }},
	}
	for place := range 4 {
		all = append(all,
			deed{fmt.Sprint("cut behind ", place), func(t *testing.T, s *store.Store, node int) { s.Cut(at(s, node, place)) }},
			deed{fmt.Sprint("cut behind ", place, ", and pushed"), func(t *testing.T, s *store.Store, node int) {
				s.Cut(at(s, node, place))
				push(t, s, node, version{10, never})
			}},
			deed{fmt.Sprint("open from 2 on: ", place), words(place, 2, never)},
			deed{fmt.Sprint("over: ", place), words(place, 2, 6)},
			deed{fmt.Sprint("owned: ", place), words(place, owner1, never)},
			deed{fmt.Sprint("ended by an owner: ", place), words(place, 2, owner1)},
			deed{fmt.Sprint("above the mark: ", place), words(place, 7, 8)},
		)
	}
	return all
}

// chainsAt6 are chains with and without versions that stay at 6.
func chainsAt6() [][]version {
	return [][]version{
		nil,
		{{5, never}},
		{{5, 6}},
		{{7, never}},
		{{owner1, never}},
		{{5, 6}, {2, 5}},
		{{5, never}, {2, 5}},
		{{8, never}, {5, 8}, {2, 5}},
		{{8, never}, {5, 6}, {2, 5}, {1, 2}},
		{{owner1, never}, {5, owner1}, {3, 5}, {2, 3}},
		{{9, never}, {8, 9}, {7, 8}, {6, 7}, {4, 6}, {3, 4}, {2, 3}, {1, 2}},
		{{5, 6}, {4, 5}, {3, 4}, {2, 3}, {1, 2}},
	}
}

// P15.3: whatever one other does, ahead of whichever step, to a node that is swept already, that is next, or that comes later, nothing goes but what did not stay.
func TestOthersInBetween(t *testing.T) {
	for _, chain := range chainsAt6() {
		for _, d := range deeds() {
			for target := range 3 {
				for when, done := 0, false; !done; when++ {
					if when > 1000 {
						t.Fatal("not done")
					}
					done = oneDeed(t, chain, d, target, when)
				}
			}
		}
	}
}

// oneDeed: true, if the sweep was done ahead of it.
func oneDeed(t *testing.T, chain []version, d deed, target, when int) bool {
	t.Helper()
	s, _ := room(t, 300)
	nodes := list(nodeOf(t, s, chain...), nodeOf(t, s, line(7)...), nodeOf(t, s, chain...))
	w := watched(s, nodes, 6)
	done := false
	for i := 0; !done; i++ {
		if i == when {
			d.do(t, s, nodes[target])
		}
		w.note()
		var wrong error
		if done, wrong = w.step(100); wrong != nil {
			t.Fatalf("%v; %s, of the node %d, ahead of the step %d; step %d: %v", chain, d.what, target, when, i, wrong)
		}
		if i > 1000 {
			t.Fatalf("%v; %s, of the node %d, ahead of the step %d: not done", chain, d.what, target, when)
		}
		if i < when && done {
			return true
		}
	}
	return false
}

// P15.3: many others, and several sweeps at once, as they come.
func TestManyOthers(t *testing.T) {
	t.Parallel()
	all := deeds()
	for seed := range int64(300) {
		r := rand.New(rand.NewSource(seed))
		s, _ := room(t, 5000)
		var nodes []int
		for range 5 {
			nodes = append(nodes, nodeOf(t, s, chainsAt6()[r.Intn(12)]...))
		}
		var sweeps []*watch
		for range 3 {
			some := slices.Clone(nodes)
			r.Shuffle(len(some), func(i, j int) { some[i], some[j] = some[j], some[i] })
			sweeps = append(sweeps, watched(s, some[:3+r.Intn(3)], []int64{6, 6, 3, 9, 0}[r.Intn(5)]))
		}
		for i := 0; len(sweeps) > 0; i++ {
			if i > 1000 {
				t.Fatal("not done")
			}
			if r.Intn(2) == 0 {
				all[r.Intn(len(all))].do(t, s, nodes[r.Intn(5)])
			}
			for _, w := range sweeps {
				w.note()
			}
			which := r.Intn(len(sweeps))
			done, wrong := sweeps[which].step(1000)
			if wrong != nil {
				t.Fatalf("seed %d, step %d: %v", seed, i, wrong)
			}
			if done {
				sweeps = slices.Delete(sweeps, which, which+1)
			}
		}
	}
}
