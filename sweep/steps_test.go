package sweep_test

import (
	"fmt"
	"slices"
	"testing"

	"varve/api"
	"varve/cells"
	"varve/store"
	"varve/sweep"
)

func room(t *testing.T, size int) (*store.Store, *cells.Arena) {
	t.Helper()
	a, _ := cells.New(size)
	s, e := store.New(a)
	if e != api.OK {
		t.Fatal(e)
	}
	return s, a
}

// version is a version's begin and end.
type version struct{ begin, end uint64 }

// push puts a version on a node: its number.
func push(t *testing.T, s *store.Store, node int, v version) int {
	t.Helper()
	head, e1 := s.Head(node)
	n, e2 := s.Version(fmt.Sprint("v", v.begin), v.begin, head)
	e3 := s.SetEnd(n, v.end)
	done, e4 := s.Push(node, head, n)
	if e1 != api.OK || e2 != api.OK || e3 != api.OK || e4 != api.OK || !done {
		t.Fatal(e1, e2, e3, e4, done)
	}
	return n
}

// nodeOf makes a node with these versions, the newest first.
func nodeOf(t *testing.T, s *store.Store, versions ...version) int {
	t.Helper()
	node, e := s.Node()
	if e != api.OK {
		t.Fatal(e)
	}
	for _, v := range slices.Backward(versions) {
		push(t, s, node, v)
	}
	return node
}

// line is a chain of so many versions that begin at 1, 2, .., each up to the next one.
func line(many int) []version {
	var l []version
	end := never
	for i := many; i > 0; i-- {
		l = append(l, version{uint64(i), end})
		end = uint64(i)
	}
	return l
}

// finish steps an operation until it is done: how many steps that took; it fails behind too many.
func finish(t *testing.T, o *sweep.Op, most int) int {
	t.Helper()
	for steps := 1; steps <= most; steps++ {
		if o.Step() {
			return steps
		}
	}
	t.Fatalf("not done within %d steps", most)
	return 0
}

// swept sweeps alone, within as many steps as it may take: how many versions went.
func swept(t *testing.T, s *store.Store, nodes []int, mark int64) int {
	t.Helper()
	versions := 0
	for _, n := range slices.Compact(slices.Sorted(slices.Values(nodes))) {
		versions += len(s.Chain(n))
	}
	o := sweep.Begin(s, nodes, mark)
	finish(t, o, 8+8*len(nodes)+8*versions)
	gone, e := o.Gone()
	if e != api.OK {
		t.Fatal(e)
	}
	return gone
}

// facts is all that the store's calls tell of a node and of the versions of its chain.
func facts(s *store.Store, node int) string {
	head, e1 := s.Head(node)
	lock, e2 := s.Lock(node)
	text := fmt.Sprint(node, head, e1, lock, e2)
	for _, v := range s.Chain(node) {
		text += " " + versionFacts(s, v)
	}
	return text
}

func versionFacts(s *store.Store, v int) string {
	begin, e1 := s.Begin(v)
	end, e2 := s.End(v)
	val, e3 := s.Val(v)
	return fmt.Sprint(v, begin, e1, end, e2, val, e3)
}

// P15.2: the chapter's example: a sweep, and a second one.
func TestExample(t *testing.T) {
	s, a := room(t, 50)
	n := nodeOf(t, s, version{8, never}, version{5, 8}, version{2, 5})
	used := a.Used()
	for _, want := range []int{1, 0} {
		if got := swept(t, s, list(n), 6); got != want {
			t.Errorf("%d, not %d", got, want)
		}
		if chain := s.Chain(n); !slices.Equal(chain, list(3, 2)) || a.Used() != used-3 {
			t.Error(chain, a.Used())
		}
	}
}

// P15.2: of chains of all lengths, at each mark around their times, those versions that do not stay are gone, with their cells, and the others, and all else, are as they were.
func TestWhichVersionsGo(t *testing.T) {
	var chains [][]version
	for many := range 6 {
		l := line(many)
		chains = append(chains, l)
		for _, end := range []uint64{0, uint64(many), uint64(many) + 1, lastTime, owner1} {
			if many > 0 {
				ended := slices.Clone(l)
				ended[0].end = end
				chains = append(chains, ended)
			}
		}
	}
	chains = append(chains,
		list(version{owner1, never}, version{5, owner1}, version{3, 5}),
		list(version{owner1, never}, version{5, 6}, version{3, 4}),
		list(version{owner1, owner1}),
		list(version{owner1, 0}, version{owner1, 0}),
		list(version{6, never}, version{2, 4}, version{1, 2}),
		list(version{2, 1}, version{6, 3}, version{4, never}, version{0, 0}),
		list(version{lastTime, never}, version{0, lastTime}),
	)
	for _, chain := range chains {
		for _, mark := range []int64{least, -1, 0, 1, 2, 3, 4, 5, 6, 7, 8, 1<<40 - 1, 1 << 40, greatest} {
			checkOneNode(t, chain, mark)
		}
	}
}

func checkOneNode(t *testing.T, chain []version, mark int64) {
	t.Helper()
	s, a := room(t, 100)
	other := nodeOf(t, s, line(3)...)
	n := nodeOf(t, s, chain...)
	s.TakeLock(n, 0, 77)
	otherFacts, versions, used := facts(s, other), s.Chain(n), a.Used()
	var begins, ends []uint64
	var each []string
	for i, v := range versions {
		begins, ends = append(begins, chain[i].begin), append(ends, chain[i].end)
		each = append(each, versionFacts(s, v))
	}
	stay := plainKeep(begins, ends, mark)
	gone := swept(t, s, list(n), mark)
	if after := s.Chain(n); gone != len(chain)-stay || !slices.Equal(after, versions[:stay]) {
		t.Fatalf("%v at %d: %d went, the chain is %v; %d of %v stay", chain, mark, gone, after, stay, versions)
	}
	if a.Used() != used-3*gone {
		t.Fatalf("%v at %d: used %d, not %d", chain, mark, a.Used(), used-3*gone)
	}
	for i, v := range versions {
		_, e := s.Val(v)
		if i < stay && versionFacts(s, v) != each[i] || i >= stay && e != api.ErrStoreNone {
			t.Fatalf("%v at %d: version %d was %s, is %s", chain, mark, v, each[i], versionFacts(s, v))
		}
	}
	if stay > 0 {
		if next, e := s.Next(versions[stay-1]); next != 0 || e != api.OK {
			t.Fatalf("%v at %d: %d, %v stands behind the last that stays", chain, mark, next, e)
		}
	}
	lock, e := s.Lock(n)
	if head, _ := s.Head(n); lock != 77 || e != api.OK || stay == 0 && head != 0 || facts(s, other) != otherFacts {
		t.Fatalf("%v at %d: head %d, lock %d, %v; %s, not %s", chain, mark, head, lock, e, facts(s, other), otherFacts)
	}
}

// P15.2: many nodes, many versions, and how many steps they take at most (swept asks that).
func TestManyNodes(t *testing.T) {
	s, a := room(t, 20000)
	var nodes []int
	want := 0
	for i := range 60 {
		nodes = append(nodes, nodeOf(t, s, line(i)...))
		want += max(0, min(i, 40)-1)
	}
	nodes = append(nodes, nodeOf(t, s, line(2000)...), nodeOf(t, s, version{39, 40}, version{1, 39}))
	want += 39 + 2
	used := a.Used()
	if got := swept(t, s, nodes, 40); got != want {
		t.Errorf("%d went, not %d", got, want)
	}
	if a.Used() != used-3*want {
		t.Errorf("used %d, not %d", a.Used(), used-3*want)
	}
	for i, n := range nodes[:60] {
		stay := i
		if i >= 1 {
			stay = max(1, i-39)
		}
		if chain := s.Chain(n); len(chain) != stay {
			t.Errorf("%d versions: %d stay, not %d", i, len(chain), stay)
		}
	}
	if l, m := len(s.Chain(nodes[60])), len(s.Chain(nodes[61])); l != 2000-39 || m != 0 {
		t.Error(l, m)
	}
	if got := swept(t, s, nodes, 40); got != 0 {
		t.Errorf("%d went by a second sweep", got)
	}
}

// P15.2: what is no node of the store's is passed over; one that comes several times is swept once.
func TestNodesThatAreNone(t *testing.T) {
	s, a := room(t, 100)
	n, m := nodeOf(t, s, line(4)...), nodeOf(t, s, line(3)...)
	emptied := nodeOf(t, s, line(1)...)
	s.Drop(emptied)
	used := a.Used()
	for _, nodes := range [][]int{nil, {}, {0}, {-1}, {m + 2}, {emptied}, {-1 << 63, 1<<63 - 1, 0, emptied, 1000}} {
		if gone := swept(t, s, nodes, 9); gone != 0 || a.Used() != used {
			t.Errorf("%d: %d went, used %d, not %d", nodes, gone, a.Used(), used)
		}
	}
	if gone := swept(t, s, list(0, n, -7, n, 99, n, emptied, n), 9); gone != 3 || len(s.Chain(n)) != 1 || len(s.Chain(m)) != 3 {
		t.Error(gone, s.Chain(n), s.Chain(m))
	}
	if gone := swept(t, s, list(emptied, m, m), 9); gone != 2 || len(s.Chain(m)) != 1 {
		t.Error(gone, s.Chain(m))
	}
	// A node that ends without versions takes new ones again.
	push(t, s, emptied, version{7, 8})
	push(t, s, emptied, version{8, 9})
	if gone := swept(t, s, list(emptied, emptied), 9); gone != 2 || len(s.Chain(emptied)) != 0 {
		t.Error(gone, s.Chain(emptied))
	}
	if v := push(t, s, emptied, version{10, never}); !slices.Equal(s.Chain(emptied), list(v)) {
		t.Error(s.Chain(emptied))
	}
}

// P15.2: a chain that another one has cut short of what its last next names is no longer than what is there.
func TestChainThatBreaksOff(t *testing.T) {
	s, a := room(t, 100)
	n := nodeOf(t, s, line(4)...)
	second, _ := s.Node()
	middle := s.Chain(n)[2]
	s.Push(second, 0, middle)
	s.Drop(second) // takes the third of four away: the chain ends behind the second, and the fourth is the other node's alone
	used := a.Used()
	if gone := swept(t, s, list(n), 9); gone != 1 || len(s.Chain(n)) != 1 || len(s.Chain(second)) != 1 || a.Used() != used-3 {
		t.Error(gone, s.Chain(n), s.Chain(second), a.Used())
	}
}

// P15.2: nodes are swept in their order: as soon as one has lost a version, those ahead of it have lost all that they lose.
func TestNodesInOrder(t *testing.T) {
	s, _ := room(t, 200)
	n, m, k := nodeOf(t, s, line(4)...), nodeOf(t, s, line(3)...), nodeOf(t, s, line(5)...)
	nodes := list(k, n, m)
	was := list(5, 4, 3)
	o := sweep.Begin(s, nodes, 9)
	for i, done := 0, false; !done; i++ {
		if i > 8+8*3+8*12 {
			t.Fatal("not done")
		}
		done = o.Step()
		for at := 1; at < len(nodes); at++ {
			if len(s.Chain(nodes[at])) < was[at] && len(s.Chain(nodes[at-1])) != 1 {
				t.Fatalf("step %d: %v, %v, %v", i, s.Chain(k), s.Chain(n), s.Chain(m))
			}
		}
	}
}

// P15.2: Begin does nothing, and keeps no list.
func TestBegin(t *testing.T) {
	s, a := room(t, 200)
	n, m, k := nodeOf(t, s, line(4)...), nodeOf(t, s, line(3)...), nodeOf(t, s, line(5)...)
	was := facts(s, n) + facts(s, m) + facts(s, k)
	used, steps := a.Used(), a.Steps()
	nodes := list(n, m, 77, 78)
	o := sweep.Begin(s, nodes[:2], 9)
	if a.Used() != used || a.Steps() != steps || facts(s, n)+facts(s, m)+facts(s, k) != was {
		t.Error("Begin did something")
	}
	nodes[0], nodes[1] = k, k
	push(t, s, n, version{7, never}) // it is looked when it is stepped, so that this one is the one that stays
	finish(t, o, 8+8*2+8*8)
	if gone, e := o.Gone(); gone != 6 || e != api.OK {
		t.Error(gone, e)
	}
	if len(s.Chain(n)) != 1 || len(s.Chain(m)) != 1 || len(s.Chain(k)) != 5 {
		t.Error(s.Chain(n), s.Chain(m), s.Chain(k))
	}
	if !slices.Equal(nodes, list(k, k, 77, 78)) {
		t.Error("a list was changed:", nodes)
	}
}

// P15.2: Gone tells nothing ahead of the end; behind it a step is done at once, and takes nothing more.
func TestStepAndGone(t *testing.T) {
	s, a := room(t, 200)
	n, m := nodeOf(t, s, line(4)...), nodeOf(t, s, line(3)...)
	o := sweep.Begin(s, list(n, m), 9)
	for i, done := 0, false; !done; i++ {
		if gone, e := o.Gone(); gone != 0 || e != api.ErrArg {
			t.Fatalf("ahead of the end: %d, %v", gone, e)
		}
		if i > 8+8*2+8*7 {
			t.Fatal("not done")
		}
		done = o.Step()
	}
	push(t, s, n, version{7, never})
	push(t, s, m, version{8, 9})
	used := a.Used()
	for range 3 {
		if gone, e := o.Gone(); gone != 5 || e != api.OK {
			t.Errorf("behind the end: %d, %v", gone, e)
		}
		if !o.Step() || a.Used() != used || len(s.Chain(n)) != 2 || len(s.Chain(m)) != 2 {
			t.Error("a step behind the end did something:", s.Chain(n), s.Chain(m))
		}
	}
}

// P15.2: of no nodes, too, an operation comes to its end by steps.
func TestNoNodes(t *testing.T) {
	s, _ := room(t, 10)
	for _, nodes := range [][]int{nil, {}} {
		o := sweep.Begin(s, nodes, 9)
		if o == nil {
			t.Fatal("no operation")
		}
		finish(t, o, 8)
		if gone, e := o.Gone(); gone != 0 || e != api.OK || !o.Step() {
			t.Error(gone, e)
		}
	}
}

// P15.2: operations of one store are apart, and each counts what it took itself.
func TestOperationsAreApart(t *testing.T) {
	s, _ := room(t, 200)
	n, m := nodeOf(t, s, line(4)...), nodeOf(t, s, line(6)...)
	first, second := sweep.Begin(s, list(n, m), 3), sweep.Begin(s, list(m, n), 5)
	for i, a, b := 0, false, false; !a || !b; i++ {
		a, b = first.Step(), second.Step()
		if i > 200 {
			t.Fatal("not done")
		}
	}
	one, e1 := first.Gone()
	two, e2 := second.Gone()
	if e1 != api.OK || e2 != api.OK || one+two != 3+4 || len(s.Chain(n)) != 1 || len(s.Chain(m)) != 2 {
		t.Error(one, e1, two, e2, s.Chain(n), s.Chain(m))
	}
}

// P15.4
func TestNone(t *testing.T) {
	var none *sweep.Op
	for _, o := range []*sweep.Op{none, sweep.Begin(nil, nil, 5), sweep.Begin(nil, list(1, 2), 5), sweep.Begin(nil, list(0), least)} {
		for range 3 {
			if gone, e := o.Gone(); gone != 0 || e != api.ErrNil {
				t.Error(gone, e)
			}
			if !o.Step() {
				t.Error("not done")
			}
		}
	}
}

// R1: what calls did not give does no harm.
func TestWhatCallsDidNotGive(t *testing.T) {
	new(sweep.Op).Step()
	new(sweep.Op).Gone()
	o := sweep.Begin(new(store.Store), list(1, 0), 5)
	finish(t, o, 24)
	o.Gone()
}
