package sched_test

import (
	"fmt"
	"math"
	"math/rand"
	"reflect"
	"slices"
	"testing"

	"varve/api"
	"varve/sched"
)

const mostInt = math.MaxInt

// result is what Run answers beside its error.
type result struct {
	answers [][]uint64
	cells   []uint64
	done    int
}

func told(x any) string {
	s := fmt.Sprintf("%+v", x)
	return s[:min(len(s), 300)]
}

func sameResult(a, b result) bool {
	return a.done == b.done && slices.Equal(a.cells, b.cells) && slices.EqualFunc(a.answers, b.answers, slices.Equal)
}

func run(t *testing.T, size int, programs [][]api.CellOp, picks []int) result {
	t.Helper()
	answers, cells, done, e := sched.Run(size, programs, picks)
	if e != api.OK {
		t.Fatalf("Run(%d, %s, %s): %v", size, told(programs), told(picks), e)
	}
	return result{answers, cells, done}
}

func runs(t *testing.T, size int, programs [][]api.CellOp, picks []int, want result) {
	t.Helper()
	if got := run(t, size, programs, picks); !sameResult(got, want) {
		t.Fatalf("Run(%d, %s, %s): %s, not %s", size, told(programs), told(picks), told(got), told(want))
	}
}

// refusesRun: ErrSchedForm, and nothing beside it.
func refusesRun(t *testing.T, size int, programs [][]api.CellOp, picks []int) {
	t.Helper()
	answers, cells, done, e := sched.Run(size, programs, picks)
	if e != api.ErrSchedForm || len(answers) != 0 || len(cells) != 0 || done != 0 {
		t.Errorf("Run(%d, %s, %s): %s, %v", size, told(programs), told(picks), told(result{answers, cells, done}), e)
	}
}

func turns(t *testing.T, workers, window int, picks, want []int) {
	t.Helper()
	if list, e := sched.Turns(workers, window, picks); e != api.OK || !slices.Equal(list, want) {
		t.Fatalf("Turns(%d, %d, %s): %s, %v, not %s", workers, window, told(picks), told(list), e, told(want))
	}
}

func refusesTurns(t *testing.T, workers, window int, picks []int) {
	t.Helper()
	if list, e := sched.Turns(workers, window, picks); e != api.ErrSchedForm || len(list) != 0 {
		t.Errorf("Turns(%d, %d, %s): %s, %v", workers, window, told(picks), told(list), e)
	}
}

func firstApart(a, b []int) string {
	for i := range min(len(a), len(b)) {
		if a[i] != b[i] {
			return fmt.Sprintf("entry %d is %d, not %d", i, a[i], b[i])
		}
	}
	return fmt.Sprintf("%d entries, not %d", len(a), len(b))
}

func load(cell int) api.CellOp            { return api.CellOp{Kind: api.CellLoad, Cell: cell} }
func store(cell int, v uint64) api.CellOp { return api.CellOp{Kind: api.CellStore, Cell: cell, A: v} }
func add(cell int, n uint64) api.CellOp   { return api.CellOp{Kind: api.CellAdd, Cell: cell, A: n} }
func cas(cell int, old, now uint64) api.CellOp {
	return api.CellOp{Kind: api.CellCAS, Cell: cell, A: old, B: now}
}

func these() [][]api.CellOp {
	return [][]api.CellOp{{add(0, 1), load(0)}, {cas(0, 1, 9)}}
}

func TestExamples(t *testing.T) {
	runs(t, 1, these(), []int{0, 1, 0, 5, 0}, result{[][]uint64{{1, 9}, {1}}, []uint64{9}, 3})
	runs(t, 1, these(), []int{1, 0}, result{[][]uint64{{1}, {0}}, []uint64{1}, 2})
	refusesRun(t, 0, these(), []int{0})
	refusesRun(t, 1, [][]api.CellOp{{load(1)}}, nil)
	turns(t, 2, 4, []int{0, 0, 0, 0, 0}, []int{0, 0, 1, 0, 0, 1, 0})
	refusesTurns(t, 2, 3, []int{0, 0})
	refusesTurns(t, 2, 3, nil)
}

// P7.1: sizes that may be: as many cells, all with 0 but the one that was stored into.
func TestRunHasSoManyCells(t *testing.T) {
	for _, size := range []int{1, 2, 64, 65, 1000, api.MaxCells - 1, api.MaxCells} {
		want := make([]uint64, size)
		runs(t, size, nil, nil, result{cells: want})
		want[size-1] = 7
		ops := []api.CellOp{load(size - 1), load(0), store(size-1, 7), load(size - 1)}
		runs(t, size, [][]api.CellOp{ops}, []int{0, 0, 0, 0}, result{[][]uint64{{0, 0, 0, 7}}, want, 4})
	}
}

// P7.1: sizes that may not be, whatever the rest is.
func TestRunRefusesOtherSizes(t *testing.T) {
	for _, size := range []int{math.MinInt, -api.MaxCells, -1, 0, api.MaxCells + 1, 2 * api.MaxCells, mostInt} {
		refusesRun(t, size, nil, nil)
		refusesRun(t, size, [][]api.CellOp{{}}, []int{0})
		refusesRun(t, size, [][]api.CellOp{{load(0)}}, []int{0})
	}
}

// P7.1: how many programs there may be, right ones and empty ones.
func TestRunCountsPrograms(t *testing.T) {
	for _, n := range []int{0, 1, 2, 15, 16} {
		programs := make([][]api.CellOp, n)
		want := result{make([][]uint64, n), []uint64{0}, 0}
		runs(t, 1, programs, []int{0, n - 1, n}, want)
		var picks []int
		for i := range n {
			programs[i] = []api.CellOp{add(0, 1)}
			want.answers[i] = []uint64{uint64(i + 1)}
			picks = append(picks, i)
		}
		runs(t, 1, programs, picks, result{want.answers, []uint64{uint64(n)}, n})
	}
	for _, n := range []int{17, 18, 1000} {
		refusesRun(t, 1, make([][]api.CellOp, n), nil)
		refusesRun(t, 1, slices.Repeat([][]api.CellOp{{load(0)}}, n), []int{0})
	}
}

// P7.1: how many operations a program may have.
func TestRunCountsOperations(t *testing.T) {
	for _, n := range []int{0, 1, 65535, 65536} {
		programs := [][]api.CellOp{slices.Repeat([]api.CellOp{add(0, 1)}, n)}
		want := result{make([][]uint64, 1), []uint64{uint64(n)}, n}
		for i := range n {
			want.answers[0] = append(want.answers[0], uint64(i+1))
		}
		runs(t, 1, programs, make([]int, n+5), want)
	}
	for _, n := range []int{65537, 70000} {
		long := slices.Repeat([]api.CellOp{load(0)}, n)
		refusesRun(t, 1, [][]api.CellOp{long}, nil)
		refusesRun(t, 1, [][]api.CellOp{{load(0)}, nil, long}, []int{0})
	}
}

// P7.1: the limit is each program's, not that of all of them.
func TestRunOfManyLongPrograms(t *testing.T) {
	programs := slices.Repeat([][]api.CellOp{slices.Repeat([]api.CellOp{add(2, 1)}, 65536)}, 16)
	var picks []int
	for i := range 65536 {
		picks = append(picks, i%16, 15)
	}
	got := run(t, 3, programs, picks)
	const done = 2*65536 - 4096 // the last one is picked more often than it has operations
	if got.done != done || !slices.Equal(got.cells, []uint64{0, 0, done}) {
		t.Error(got.done, got.cells)
	}
	for i, answers := range got.answers[:15] {
		if len(answers) != 4096 || answers[0] != uint64(2*i+1) {
			t.Error(i, len(answers))
		}
	}
	if len(got.answers[15]) != 65536 {
		t.Error(len(got.answers[15]))
	}
}

// P7.1: which Kinds there are.
func TestRunLooksAtKinds(t *testing.T) {
	for kind := api.CellLoad; kind <= api.CellAdd; kind++ {
		ops := []api.CellOp{{Kind: kind, A: 0, B: 3}}
		want := [...]uint64{api.CellLoad: 0, api.CellStore: 0, api.CellCAS: 1, api.CellAdd: 0}[kind]
		cell := [...]uint64{api.CellCAS: 3, api.CellAdd: 0}[kind]
		runs(t, 1, [][]api.CellOp{ops}, []int{0}, result{[][]uint64{{want}}, []uint64{cell}, 1})
	}
	for _, kind := range []int{math.MinInt, -1, 0, api.CellAdd + 1, 257, mostInt} {
		op := api.CellOp{Kind: kind}
		refusesRun(t, 1, [][]api.CellOp{{op}}, nil)
		refusesRun(t, 1, [][]api.CellOp{{load(0), op, load(0)}, {load(0)}}, []int{0})
		refusesRun(t, 1, [][]api.CellOp{nil, {load(0)}, {load(0), op}}, []int{0, 1})
	}
}

// P7.1: which cells there are, for each Kind.
func TestRunLooksAtCells(t *testing.T) {
	for _, size := range []int{1, 2, 5, api.MaxCells} {
		for kind := api.CellLoad; kind <= api.CellAdd; kind++ {
			for _, cell := range []int{0, size / 2, size - 1} {
				ops := []api.CellOp{{Kind: kind, Cell: cell, A: 0, B: 0}}
				run(t, size, [][]api.CellOp{ops}, []int{0})
			}
			for _, cell := range []int{math.MinInt, -size, -1, size, size + 1, 1 << 32, mostInt} {
				op := api.CellOp{Kind: kind, Cell: cell}
				refusesRun(t, size, [][]api.CellOp{{op}}, []int{0})
				refusesRun(t, size, [][]api.CellOp{{load(0)}, {load(0), op}}, nil)
			}
		}
	}
}

// P7.1: picks that do nothing, among those that do.
func TestRunPassesOverOtherPicks(t *testing.T) {
	for _, none := range []int{math.MinInt, -17, -2, -1, 2, 3, 15, 16, 17, mostInt} {
		runs(t, 1, these(), []int{none, 0, none, none, 1, none, 0, none}, result{[][]uint64{{1, 9}, {1}}, []uint64{9}, 3})
		runs(t, 1, these(), []int{none, none}, result{make([][]uint64, 2), []uint64{0}, 0})
		runs(t, 1, nil, []int{none, 0}, result{nil, []uint64{0}, 0})
	}
}

// P7.1: picks of programs that are done, of those without operations, and more picks than there are operations.
func TestRunPassesOverProgramsThatAreDone(t *testing.T) {
	programs := [][]api.CellOp{{}, {add(0, 1)}, nil, {add(0, 10), add(0, 100)}}
	runs(t, 1, programs, []int{0, 1, 1, 0, 2, 3, 1, 3, 3, 2, 3}, result{[][]uint64{nil, {1}, nil, {11, 111}}, []uint64{111}, 3})
	runs(t, 1, programs, []int{2, 0, 2, 0}, result{make([][]uint64, 4), []uint64{0}, 0})
	runs(t, 1, [][]api.CellOp{{}, {}}, []int{0, 1}, result{make([][]uint64, 2), []uint64{0}, 0})
}

// P7.1: no picks, and fewer than there are operations.
func TestRunOfFewPicks(t *testing.T) {
	programs := [][]api.CellOp{{store(1, 4), load(1), add(1, 2)}, {store(0, 8), load(1)}}
	runs(t, 2, programs, nil, result{make([][]uint64, 2), []uint64{0, 0}, 0})
	runs(t, 2, programs, []int{}, result{make([][]uint64, 2), []uint64{0, 0}, 0})
	runs(t, 2, programs, []int{1}, result{[][]uint64{nil, {0}}, []uint64{8, 0}, 1})
	runs(t, 2, programs, []int{0, 0}, result{[][]uint64{{0, 4}, nil}, []uint64{0, 4}, 2})
	runs(t, 2, programs, []int{1, 0, 1, 0}, result{[][]uint64{{0, 4}, {0, 4}}, []uint64{8, 4}, 4})
}

// P7.1: as many lists as programs, and as many numbers in each as its operations that were done.
func TestRunAnswersAListForEachProgram(t *testing.T) {
	for n := range 17 {
		programs := slices.Repeat([][]api.CellOp{{load(0), load(0)}}, n)
		answers, cells, done, e := sched.Run(3, programs, []int{3, 3, 3, 8})
		want := min(2, 2*max(0, n-3)) + min(1, max(0, n-8))
		if e != api.OK || len(answers) != n || len(cells) != 3 || done != want {
			t.Error(n, answers, cells, done, e)
		}
		for i, list := range answers {
			if ops := map[int]int{3: 2, 8: 1}[i]; len(list) != ops {
				t.Error(n, i, list)
			}
		}
	}
}

// P7.1: the operations do what cells.Do does: fields that a Kind does not use are not looked at, Add goes round, a CAS that fails leaves the cell.
func TestRunDoesAsCells(t *testing.T) {
	const most = math.MaxUint64
	ops := []api.CellOp{
		{Kind: api.CellStore, Cell: 1, A: 5, B: 77},
		{Kind: api.CellLoad, Cell: 1, A: 78, B: 79},
		cas(1, 6, 7), cas(1, 5, 7), cas(1, 5, 8),
		{Kind: api.CellAdd, Cell: 1, A: most, B: 80},
		add(0, most), add(0, 2), load(0),
		cas(2, 0, most), add(2, 1), store(2, 0), cas(2, 0, 0),
	}
	picks := make([]int, len(ops))
	want := []uint64{0, 5, 0, 1, 0, 6, most, 1, 1, 1, 0, 0, 1}
	runs(t, 3, [][]api.CellOp{ops}, picks, result{[][]uint64{want}, []uint64{1, 6, 0}, len(ops)})
}

// P7.1: one call begins anew: nothing of an earlier one is left.
func TestRunBeginsAnew(t *testing.T) {
	for range 3 {
		runs(t, 1, these(), []int{0, 0, 1}, result{[][]uint64{{1, 1}, {1}}, []uint64{9}, 3})
	}
	refusesRun(t, 1, [][]api.CellOp{{store(0, 4), load(3)}}, []int{0})
	runs(t, 1, [][]api.CellOp{{load(0)}}, []int{0}, result{[][]uint64{{0}}, []uint64{0}, 1})
}

// eachOrder hands on the picks by which all of the programs are done, in every order that keeps each program's own.
func eachOrder(programs [][]api.CellOp, use func(picks []int)) {
	left := make([]int, len(programs))
	all := 0
	for i, ops := range programs {
		left[i] = len(ops)
		all += len(ops)
	}
	var picks []int
	var grow func()
	grow = func() {
		if len(picks) == all {
			use(picks)
		}
		for i := range left {
			if left[i] == 0 {
				continue
			}
			left[i]--
			picks = append(picks, i)
			grow()
			picks = picks[:len(picks)-1]
			left[i]++
		}
	}
	grow()
}

// P7.4: programs that touch no cell in common come to the same in each order.
func TestRunApart(t *testing.T) {
	programs := [][]api.CellOp{
		{add(0, 1), cas(4, 0, 3), load(4), store(0, 6)},
		{cas(1, 0, 5), add(1, 2), cas(1, 7, 8)},
		{store(2, 1), load(3), add(3, 9)},
	}
	want := result{[][]uint64{{1, 1, 3, 0}, {1, 7, 1}, {0, 0, 9}}, []uint64{6, 8, 1, 9, 3}, 10}
	orders := 0
	eachOrder(programs, func(picks []int) {
		orders++
		runs(t, 5, programs, picks, want)
	})
	if orders != 4200 {
		t.Error(orders)
	}
}

// P7.4: the same of two programs apart beside a third that has a cell with one of them: the other one does as it does alone.
func TestRunApartFromOneThatShares(t *testing.T) {
	programs := [][]api.CellOp{{add(0, 1), load(0)}, {cas(0, 0, 5), load(0)}, {add(1, 3), cas(1, 3, 4), load(1)}}
	eachOrder(programs, func(picks []int) {
		got := run(t, 2, programs, picks)
		if !slices.Equal(got.answers[2], []uint64{3, 1, 4}) || got.cells[1] != 4 || got.done != 7 {
			t.Fatal(picks, got)
		}
	})
}

// P7.4: of programs that share cells, each outcome is that of some order that keeps each program's own: the orders, done by a single program, tell which there are.
func TestRunIsSomeOrder(t *testing.T) {
	programs := [][]api.CellOp{
		{load(0), cas(0, 0, 1), load(1)},
		{add(0, 2), store(1, 3)},
		{cas(0, 2, 4), add(1, 1)},
	}
	var may []result
	eachOrder(programs, func(order []int) {
		may = append(may, oneByOne(t, 2, programs, order))
	})
	r := rand.New(rand.NewSource(74))
	for range 500 {
		picks := somePicks(r, len(programs), 30)
		picks = append(picks, 2, 0, 1, 1, 0, 2, 0)
		got := run(t, 2, programs, picks)
		if !slices.ContainsFunc(may, func(m result) bool { return sameResult(m, got) }) {
			t.Fatalf("%v: %v is what no order gives", picks, got)
		}
	}
}

// oneByOne does the programs' operations in that order as one program, and deals out what they answered.
func oneByOne(t *testing.T, size int, programs [][]api.CellOp, order []int) result {
	t.Helper()
	next := make([]int, len(programs))
	var ops []api.CellOp
	for _, p := range order {
		ops = append(ops, programs[p][next[p]])
		next[p]++
	}
	one := run(t, size, [][]api.CellOp{ops}, make([]int, len(ops)))
	dealt := result{make([][]uint64, len(programs)), one.cells, one.done}
	for i, p := range order {
		dealt.answers[p] = append(dealt.answers[p], one.answers[0][i])
	}
	return dealt
}

// P7.1, R3: what is handed in is left as it was, spare room too.
func TestRunLeavesWhatIsHandedIn(t *testing.T) {
	ops := []api.CellOp{add(0, 1), load(1), store(1, 7), store(0, 9)}
	hand := func() ([][]api.CellOp, []int) {
		all := slices.Clone(ops)
		return [][]api.CellOp{all[:2], all[1:3], all[:0], all}, []int{0, 1, 0, 3, -1, 5, 1, 2, 4, 4}
	}
	programs, picks := hand()
	first := run(t, 2, programs[:3], picks[:8])
	wantPrograms, wantPicks := hand()
	if !reflect.DeepEqual(programs, wantPrograms) || !slices.Equal(picks, wantPicks) {
		t.Fatal(programs, picks)
	}
	copied := result{[][]uint64{{1, 0}, {0, 0}, nil}, []uint64{1, 7}, 4}
	for i := range picks {
		picks[i] = 99
	}
	for i := range ops {
		programs[3][i] = store(1, 55)
	}
	if !sameResult(first, copied) {
		t.Error(first)
	}
}

// R3: no two lists of an answer share memory, nor two answers, spare room too.
func TestRunAnswersNewMemory(t *testing.T) {
	programs := [][]api.CellOp{{add(0, 1), add(0, 1), add(0, 1)}, {load(1), load(0)}, {}, {load(0)}}
	picks := []int{0, 1, 0, 3, 1, 2, 0}
	for range 2 {
		got := run(t, 2, programs, picks)
		lists := append(slices.Clone(got.answers), got.cells)
		for i, list := range lists {
			mark(list, uint64(100+i))
		}
		for i, list := range lists {
			marked(t, list, uint64(100+i))
		}
		if spare := got.answers[len(got.answers):cap(got.answers)]; len(spare) > 0 {
			spare[0] = []uint64{1}
		}
		runs(t, 2, programs, picks, result{[][]uint64{{1, 2, 3}, {0, 2}, nil, {2}}, []uint64{3, 0}, 6})
	}
}

func mark[T any](list []T, v T) {
	for i := range list[:cap(list)] {
		list[:cap(list)][i] = v
	}
}

func marked[T comparable](t *testing.T, list []T, v T) {
	t.Helper()
	for i, x := range list[:cap(list)] {
		if x != v {
			t.Errorf("entry %d of a list was written by another", i)
		}
	}
}

// P7.2: how many workers there may be.
func TestTurnsCountsWorkers(t *testing.T) {
	for _, workers := range []int{1, 2, 15, 16} {
		turns(t, workers, 2*workers, nil, nil)
		turns(t, workers, 1000, []int{workers - 1}, []int{workers - 1})
	}
	for _, workers := range []int{math.MinInt, -17, -1, 0, 17, 18, 500, math.MaxInt/2 + 2, mostInt} {
		for _, window := range []int{-1, 0, 1, 2, 2 * workers, 34, 36, 1000} {
			refusesTurns(t, workers, window, nil)
			refusesTurns(t, workers, window, []int{0})
		}
	}
}

// P7.2: which windows there may be, of each number of workers.
func TestTurnsLooksAtWindows(t *testing.T) {
	for workers := 1; workers <= 16; workers++ {
		for _, window := range []int{2 * workers, 2*workers + 1, 500, 999, 1000} {
			turns(t, workers, window, []int{0, 0}[:1], []int{0})
		}
		for _, window := range []int{math.MinInt, -1000, -1, 0, workers, 2*workers - 1, 1001, 2000, mostInt} {
			refusesTurns(t, workers, window, nil)
			refusesTurns(t, workers, window, []int{0})
		}
	}
}

// P7.2: how many picks there may be; those that are left out count as well.
func TestTurnsCountsPicks(t *testing.T) {
	for _, n := range []int{0, 1, 65535, 65536} {
		turns(t, 1, 2, make([]int, n), make([]int, n))
		turns(t, 1, 1000, slices.Repeat([]int{-1}, n), nil)
	}
	for _, n := range []int{65537, 70000} {
		refusesTurns(t, 1, 2, make([]int, n))
		refusesTurns(t, 16, 1000, make([]int, n))
		refusesTurns(t, 2, 4, slices.Repeat([]int{7}, n))
	}
}

// P7.2, P7.3: as many picks as there may be, all of one worker.
func TestTurnsOfAllPicksOfOne(t *testing.T) {
	picks := slices.Repeat([]int{3}, 65536)
	list, e := sched.Turns(16, 32, picks)
	if want := plainTurns(16, 32, picks); e != api.OK || !slices.Equal(list, want) {
		t.Error(e, firstApart(list, want))
	}
	fair(t, 16, 32, list)
}

// P7.2: picks of no worker are left out: nobody is laid on their account, and they do not count as entries.
func TestTurnsLeavesOtherPicksOut(t *testing.T) {
	for _, none := range []int{math.MinInt, -17, -1, 2, 3, 15, 16, mostInt} {
		turns(t, 2, 4, []int{none}, nil)
		turns(t, 2, 4, []int{none, none, none, none, none}, nil)
		turns(t, 2, 4, []int{none, 0, none, 0, none, none}, []int{0, 0})
		turns(t, 2, 4, []int{0, 0, none, none, none, 0}, []int{0, 0, 1, 0})
		turns(t, 2, 4, []int{none, 0, 0, none, 0, 0, 0, none}, []int{0, 0, 1, 0, 0, 1, 0})
	}
	turns(t, 16, 32, []int{16, -1, 15}, []int{15})
}

// P7.2: no picks, no list, nil and empty.
func TestTurnsOfNoPicks(t *testing.T) {
	for workers := 1; workers <= 16; workers++ {
		turns(t, workers, 2*workers, nil, nil)
		turns(t, workers, 2*workers, []int{}, nil)
	}
}

// P7.2: a worker alone waits for nobody.
func TestTurnsOfOneWorker(t *testing.T) {
	for _, window := range []int{2, 3, 1000} {
		turns(t, 1, window, []int{0, 0, 0, 0}, []int{0, 0, 0, 0})
		turns(t, 1, window, []int{1, 0, -1, 0}, []int{0, 0})
	}
}

// P7.2: the least of several that never came is laid first, and all who are late are, ahead of the pick.
func TestTurnsLaysThoseWhoNeverCame(t *testing.T) {
	turns(t, 3, 6, []int{0, 0, 0}, []int{0, 0, 0})
	turns(t, 3, 6, []int{0, 0, 0, 0}, []int{0, 0, 0, 1, 2, 0})
	turns(t, 3, 6, []int{2, 2, 2, 2}, []int{2, 2, 2, 0, 1, 2})
	turns(t, 3, 6, []int{1, 1, 1, 1}, []int{1, 1, 1, 0, 2, 1})
	turns(t, 3, 7, []int{1, 1, 1, 1}, []int{1, 1, 1, 1})
	turns(t, 4, 8, []int{3, 3, 3, 3, 1}, []int{3, 3, 3, 3, 0, 1, 2, 1})
}

// P7.2: one that never came has waited longer than one that came first, though its number is greater; and of those that came, the one that came earlier.
func TestTurnsLaysTheLongestWaiting(t *testing.T) {
	turns(t, 3, 6, []int{0, 1, 1, 1, 1}, []int{0, 1, 1, 2, 0, 1, 1})
	turns(t, 3, 6, []int{1, 0, 0, 0, 0}, []int{1, 0, 0, 2, 1, 0, 0})
	turns(t, 3, 6, []int{2, 0, 1, 1, 1, 1}, []int{2, 0, 1, 1, 2, 0, 1, 1})
	turns(t, 3, 6, []int{0, 2, 1, 1, 1, 1}, []int{0, 2, 1, 1, 0, 2, 1, 1})
}

// P7.2: who is picked is laid as a late one as well, if it is late, and then comes twice.
func TestTurnsLaysAPickThatIsLate(t *testing.T) {
	turns(t, 2, 4, []int{0, 0, 1}, []int{0, 0, 1, 1})
	turns(t, 2, 4, []int{0, 1, 1, 0}, []int{0, 1, 1, 0, 0})
	turns(t, 3, 6, []int{0, 0, 0, 2}, []int{0, 0, 0, 1, 2, 2})
}

// P7.2: a worker that has come among the last window - workers entries is not laid, one that came just ahead of them is; and by being laid it makes the next one late.
func TestTurnsWaitsNoLonger(t *testing.T) {
	for workers := 2; workers <= 16; workers++ {
		for _, window := range []int{2 * workers, 2*workers + 1, 100, 1000} {
			var down []int
			for w := range workers {
				down = append(down, workers-1-w)
			}
			picks := slices.Concat(down, make([]int, window-2*workers), []int{0})
			turns(t, workers, window, picks, picks)
			turns(t, workers, window, slices.Concat(picks, []int{0}), slices.Concat(picks, down))
			turns(t, workers, window, slices.Concat(picks, []int{1}), slices.Concat(picks, down[:workers-1], []int{1}))
		}
	}
}

// fair: each worker comes in each window of the list.
func fair(t *testing.T, workers, window int, list []int) {
	t.Helper()
	last := slices.Repeat([]int{-1}, workers)
	for i, w := range list {
		last[w] = i
		if first := slices.Min(last); i-window >= first {
			t.Fatalf("%d workers, window %d: one does not come in the entries up to %d", workers, window, i)
		}
	}
}

// P7.3: each worker comes in each window, whatever the picks.
func TestTurnsAreFair(t *testing.T) {
	r := rand.New(rand.NewSource(75))
	for range 3000 {
		workers := 1 + r.Intn(16)
		window := 2*workers + r.Intn(20)
		picks := somePicks(r, 1+r.Intn(workers), 300)
		list, e := sched.Turns(workers, window, picks)
		if e != api.OK {
			t.Fatal(e)
		}
		for from := 0; from+window <= len(list); from++ {
			for w := range workers {
				if !slices.Contains(list[from:from+window], w) {
					t.Fatalf("%d workers, window %d, from %d on: %d does not come", workers, window, from, w)
				}
			}
		}
	}
}

// P7.3: without what was laid in between, the list is the picks that may be: each of them stands in it in its order, with late workers alone ahead of it, and nothing stands behind the last.
func TestTurnsHasThePicks(t *testing.T) {
	r := rand.New(rand.NewSource(76))
	for range 3000 {
		workers := 1 + r.Intn(16)
		window := 2*workers + r.Intn(20)
		picks := somePicks(r, workers, 200)
		may := slices.DeleteFunc(slices.Clone(picks), func(p int) bool { return p < 0 || p >= workers })
		list, e := sched.Turns(workers, window, picks)
		if e != api.OK {
			t.Fatal(e)
		}
		for i := range list {
			late := false
			for w := range workers {
				from := i - (window - workers)
				late = late || from >= 0 && !slices.Contains(list[from:i], w)
			}
			if late {
				continue
			}
			if len(may) == 0 || list[i] != may[0] {
				t.Fatalf("Turns(%d, %d, %v): entry %d of %v is no pick", workers, window, picks, i, list)
			}
			may = may[1:]
		}
		if len(may) != 0 {
			t.Fatalf("Turns(%d, %d, %v): %v are not in it", workers, window, picks, may)
		}
	}
}

// R3: the picks are left as they were, spare room too, and the list shares none of it, nor with another list.
func TestTurnsAnswersNewMemory(t *testing.T) {
	picks := []int{0, 0, 7, 0, 0, 0, 1, 1, 1}
	want := []int{0, 0, 1, 0, 0, 1, 0}
	var lists [][]int
	for range 3 {
		list, e := sched.Turns(2, 4, picks[:6])
		if e != api.OK || !slices.Equal(list, want) {
			t.Fatal(list, e)
		}
		mark(list, 100+len(lists))
		lists = append(lists, list)
	}
	if !slices.Equal(picks, []int{0, 0, 7, 0, 0, 0, 1, 1, 1}) {
		t.Error(picks)
	}
	for i, list := range lists {
		marked(t, list, 100+i)
	}
	whole, _ := sched.Turns(1, 2, []int{0, 0})
	alone := []int{0, 0, 0}
	list, _ := sched.Turns(1, 2, alone[:2])
	alone[0], alone[1] = 5, 6
	if !slices.Equal(list, whole) || alone[2] != 0 {
		t.Error(list, alone)
	}
}

// A Task of another's making is one, too.
type countdown int

func (c *countdown) Step() bool {
	*c--
	return *c >= 0
}

func TestTaskIsAnInterface(t *testing.T) {
	two := countdown(2)
	var task sched.Task = &two
	if !task.Step() || !task.Step() || task.Step() {
		t.Error(two)
	}
}
