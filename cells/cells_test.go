package cells_test

import (
	"math"
	"slices"
	"testing"

	"varve/api"
	"varve/cells"
)

const most = math.MaxUint64 // 2^64 - 1

func ok(t *testing.T, answers ...api.Errno) {
	t.Helper()
	for i, e := range answers {
		if e != api.OK {
			t.Fatalf("call %d: %v", i, e)
		}
	}
}

func want(t *testing.T, got, want api.Errno) {
	t.Helper()
	if got != want {
		t.Errorf("answered %v, not %v", got, want)
	}
}

// arena has so many cells, of which the first ones are taken.
func arena(t *testing.T, size, taken int) *cells.Arena {
	t.Helper()
	a, e := cells.New(size)
	if e != api.OK || a == nil {
		t.Fatalf("New(%d): %v, %v", size, a, e)
	}
	for i := range taken {
		takes(t, a, i)
	}
	return a
}

// takes: the next cell that is taken is this one, and it has 0.
func takes(t *testing.T, a *cells.Arena, cell int) {
	t.Helper()
	if got, e := a.Alloc(); got != cell || e != api.OK {
		t.Fatalf("Alloc: %d, %v, not %d", got, e, cell)
	}
	if v, e := a.Load(cell); v != 0 || e != api.OK {
		t.Fatalf("cell %d is taken with %d, %v", cell, v, e)
	}
}

// full: there is no free cell.
func full(t *testing.T, a *cells.Arena) {
	t.Helper()
	if cell, e := a.Alloc(); cell != 0 || e != api.ErrCellsFull {
		t.Errorf("Alloc of a full arena: %d, %v", cell, e)
	}
}

// numbers are what the first cells have, all of them taken.
func numbers(t *testing.T, a *cells.Arena, n int) []uint64 {
	t.Helper()
	var all []uint64
	for cell := range n {
		v, e := a.Load(cell)
		if e != api.OK {
			t.Fatalf("Load(%d): %v", cell, e)
		}
		all = append(all, v)
	}
	return all
}

func has(t *testing.T, a *cells.Arena, want ...uint64) {
	t.Helper()
	if got := numbers(t, a, len(want)); !slices.Equal(got, want) {
		t.Errorf("cells have %d, not %d", got, want)
	}
}

// counts: so many cells are taken, and so many steps were done.
func counts(t *testing.T, a *cells.Arena, used, steps int) {
	t.Helper()
	if a.Used() != used || a.Steps() != steps {
		t.Errorf("used %d, steps %d, not %d, %d", a.Used(), a.Steps(), used, steps)
	}
}

func load(t *testing.T, a *cells.Arena, cell int, want uint64) {
	t.Helper()
	if v, e := a.Load(cell); v != want || e != api.OK {
		t.Errorf("Load(%d): %d, %v, not %d", cell, v, e, want)
	}
}

func cas(t *testing.T, a *cells.Arena, cell int, old, now uint64, want bool) {
	t.Helper()
	if done, e := a.CAS(cell, old, now); done != want || e != api.OK {
		t.Errorf("CAS(%d, %d, %d): %t, %v, not %t", cell, old, now, done, e, want)
	}
}

func add(t *testing.T, a *cells.Arena, cell int, n, want uint64) {
	t.Helper()
	if v, e := a.Add(cell, n); v != want || e != api.OK {
		t.Errorf("Add(%d, %d): %d, %v, not %d", cell, n, v, e, want)
	}
}

func do(t *testing.T, a *cells.Arena, op api.CellOp, want uint64) {
	t.Helper()
	if v, e := a.Do(op); v != want || e != api.OK {
		t.Errorf("Do(%+v): %d, %v, not %d", op, v, e, want)
	}
}

// refuses: each of the steps, and Do of it, answers this error about the cell, and nothing beside it.
func refuses(t *testing.T, a *cells.Arena, cell int, e api.Errno) {
	t.Helper()
	if v, got := a.Load(cell); v != 0 || got != e {
		t.Errorf("Load(%d): %d, %v, not %v", cell, v, got, e)
	}
	if got := a.Store(cell, 9); got != e {
		t.Errorf("Store(%d): %v, not %v", cell, got, e)
	}
	for _, old := range []uint64{0, 5} {
		if done, got := a.CAS(cell, old, 9); done || got != e {
			t.Errorf("CAS(%d, %d): %t, %v, not %v", cell, old, done, got, e)
		}
	}
	if v, got := a.Add(cell, 9); v != 0 || got != e {
		t.Errorf("Add(%d): %d, %v, not %v", cell, v, got, e)
	}
	for kind := api.CellLoad; kind <= api.CellAdd; kind++ {
		for _, old := range []uint64{0, 5} {
			op := api.CellOp{Kind: kind, Cell: cell, A: old, B: 9}
			if v, got := a.Do(op); v != 0 || got != e {
				t.Errorf("Do(%+v): %d, %v, not %v", op, v, got, e)
			}
		}
	}
}

func TestExamples(t *testing.T) {
	a, e := cells.New(2)
	ok(t, e)
	for want := range 2 {
		if cell, e := a.Alloc(); cell != want || e != api.OK {
			t.Error(cell, e)
		}
	}
	full(t, a)
	counts(t, a, 2, 0)
	ok(t, a.Store(1, 5))
	cas(t, a, 1, 5, 7, true)
	cas(t, a, 1, 5, 8, false)
	load(t, a, 1, 7)
	add(t, a, 1, most, 6)
	counts(t, a, 2, 5)
	ok(t, a.Free(0))
	_, e = a.Load(0)
	want(t, e, api.ErrCellsNone)
	want(t, a.Free(0), api.ErrCellsNone)
	cell, e := a.Alloc()
	if cell != 0 || e != api.OK {
		t.Error(cell, e)
	}
	load(t, a, 0, 0)
	v, e := a.Do(api.CellOp{Kind: 5})
	if v != 0 || e != api.ErrArg {
		t.Error(v, e)
	}
	do(t, a, api.CellOp{Kind: api.CellCAS, Cell: 1, A: 6, B: 9}, 1)
	none, e := cells.New(0)
	if none != nil || e != api.ErrArg {
		t.Error(none, e)
	}
}

// P3.1: sizes that may be.
func TestNewHasSoManyFree(t *testing.T) {
	for _, size := range []int{1, 2, 63, 64, 65, 127, 128, 129, 1000, api.MaxCells - 1, api.MaxCells} {
		a := arena(t, size, 0)
		counts(t, a, 0, 0)
		for _, cell := range []int{0, size / 2, size - 1, size} {
			want(t, a.Free(cell), api.ErrCellsNone)
		}
		for want := range size {
			if cell, e := a.Alloc(); cell != want || e != api.OK {
				t.Fatalf("size %d: Alloc: %d, %v, not %d", size, cell, e, want)
			}
		}
		full(t, a)
		full(t, a)
		counts(t, a, size, 0)
		load(t, a, size-1, 0)
		refuses(t, a, size, api.ErrCellsNone)
	}
}

// P3.1: sizes that may not be.
func TestNewRefusesOtherSizes(t *testing.T) {
	for _, size := range []int{math.MinInt, -api.MaxCells, -64, -1, 0, api.MaxCells + 1, 2 * api.MaxCells, math.MaxInt} {
		if a, e := cells.New(size); a != nil || e != api.ErrArg {
			t.Errorf("New(%d): %v, %v", size, a, e)
		}
	}
}

// P3.2: what was freed in the middle comes first, the least of it ahead.
func TestAllocTakesTheLeastFree(t *testing.T) {
	a := arena(t, 200, 150)
	for _, cell := range []int{149, 3, 64, 63, 128, 0, 127} {
		ok(t, a.Free(cell))
	}
	for _, cell := range []int{0, 3, 63} {
		takes(t, a, cell)
	}
	ok(t, a.Free(3), a.Free(100))
	for _, cell := range []int{3, 64, 100, 127, 128, 149, 150, 151} {
		takes(t, a, cell)
	}
	if a.Used() != 152 {
		t.Error(a.Used())
	}
}

// P3.2: a full arena, and one cell of it freed, wherever it stands.
func TestAllocOfAFullArena(t *testing.T) {
	const size = 130
	a := arena(t, size, size)
	for cell := range size {
		full(t, a)
		ok(t, a.Free(cell))
		if a.Used() != size-1 {
			t.Fatal(a.Used())
		}
		takes(t, a, cell)
	}
	for cell := range size {
		ok(t, a.Free(size-1-cell))
	}
	if a.Used() != 0 {
		t.Error(a.Used())
	}
	for cell := range size {
		takes(t, a, cell)
	}
	full(t, a)
}

// P3.2: a cell that is taken again does not have what it had.
func TestAllocBeginsWithNought(t *testing.T) {
	a := arena(t, 70, 70)
	for _, cell := range []int{0, 1, 63, 64, 69} {
		ok(t, a.Store(cell, most), a.Free(cell))
		takes(t, a, cell)
		add(t, a, cell, 3, 3)
		ok(t, a.Free(cell))
		takes(t, a, cell)
		cas(t, a, cell, 3, 4, false)
		cas(t, a, cell, 0, 4, true)
	}
}

// P3.2: Free of what is not taken changes nothing.
func TestFreeRefusesWhatIsNotTaken(t *testing.T) {
	a := arena(t, 70, 67)
	ok(t, a.Store(0, 5), a.Store(65, 6), a.Free(2))
	steps := a.Steps()
	for _, cell := range []int{math.MinInt, -70, -64, -1, 2, 67, 69, 70, 71, 127, 128, api.MaxCells - 1, api.MaxCells, api.MaxCells + 1, math.MaxInt} {
		want(t, a.Free(cell), api.ErrCellsNone)
		counts(t, a, 66, steps)
	}
	load(t, a, 0, 5)
	load(t, a, 65, 6)
	for _, cell := range []int{2, 67, 68, 69} {
		takes(t, a, cell)
	}
	full(t, a)
	ok(t, a.Free(2))
	want(t, a.Free(2), api.ErrCellsNone)
	takes(t, a, 2)
	full(t, a)
}

// P3.3, P3.4: of a cell that is not taken nothing is answered, done or counted.
func TestStepsRefuseWhatIsNotTaken(t *testing.T) {
	a := arena(t, 70, 67)
	for cell := range 67 {
		ok(t, a.Store(cell, uint64(cell)+100))
	}
	ok(t, a.Store(2, 5), a.Free(2), a.Free(66))
	before, steps := a.Used(), a.Steps()
	none := []int{math.MinInt, -api.MaxCells, -70, -64, -1, 2, 66, 67, 68, 69, 70, 71, 127, 128, api.MaxCells - 1, api.MaxCells, api.MaxCells + 1, math.MaxInt}
	for _, cell := range none {
		refuses(t, a, cell, api.ErrCellsNone)
		counts(t, a, before, steps)
	}
	for _, cell := range []int{2, 66, 67, 68, 69} {
		takes(t, a, cell)
	}
	full(t, a)
	for cell := range 66 {
		if cell != 2 {
			load(t, a, cell, uint64(cell)+100)
		}
	}
}

// P3.3: what Load and Store do.
func TestLoadAndStore(t *testing.T) {
	a := arena(t, 3, 2)
	load(t, a, 0, 0)
	for _, v := range []uint64{1, 0, 1 << 32, 1 << 63, most, 7, 7} {
		ok(t, a.Store(1, v))
		load(t, a, 1, v)
		load(t, a, 1, v)
		load(t, a, 0, 0)
	}
}

// P3.3: a CAS that is true, and one that is false.
func TestCAS(t *testing.T) {
	a := arena(t, 2, 2)
	numbers := []uint64{0, 1, 2, 1 << 32, 1 << 63, most}
	for _, have := range numbers {
		for _, old := range numbers {
			for _, now := range numbers {
				ok(t, a.Store(1, have))
				cas(t, a, 1, old, now, have == old)
				if have == old {
					load(t, a, 1, now)
				} else {
					load(t, a, 1, have)
				}
				load(t, a, 0, 0)
			}
		}
	}
}

// P3.3: Add answers what the cell has then, modulo 2^64.
func TestAdd(t *testing.T) {
	a := arena(t, 2, 2)
	for _, c := range []struct{ have, n, sum uint64 }{
		{0, 0, 0}, {0, 1, 1}, {5, 0, 5}, {5, 7, 12},
		{most - 1, 1, most}, {most, 0, most}, {0, most, most},
		{most, 1, 0}, {1, most, 0}, {7, most, 6}, {most, most, most - 1},
		{1 << 63, 1 << 63, 0}, {1 << 63, 1<<63 - 1, most}, {1<<32 - 1, 1, 1 << 32},
	} {
		ok(t, a.Store(0, c.have))
		add(t, a, 0, c.n, c.sum)
		load(t, a, 0, c.sum)
		load(t, a, 1, 0)
	}
}

// P3.4: every Kind; what a Kind does not use is not looked at.
func TestDo(t *testing.T) {
	a := arena(t, 70, 70)
	for _, cell := range []int{0, 1, 64, 69} {
		do(t, a, api.CellOp{Kind: api.CellStore, Cell: cell, A: 5, B: 99}, 0)
		load(t, a, cell, 5)
		do(t, a, api.CellOp{Kind: api.CellLoad, Cell: cell, A: 98, B: 99}, 5)
		load(t, a, cell, 5)
		do(t, a, api.CellOp{Kind: api.CellCAS, Cell: cell, A: 6, B: 7}, 0)
		load(t, a, cell, 5)
		do(t, a, api.CellOp{Kind: api.CellCAS, Cell: cell, A: 5, B: 7}, 1)
		load(t, a, cell, 7)
		do(t, a, api.CellOp{Kind: api.CellCAS, Cell: cell, A: 7, B: 7}, 1)
		do(t, a, api.CellOp{Kind: api.CellAdd, Cell: cell, A: 3, B: 99}, 10)
		load(t, a, cell, 10)
		do(t, a, api.CellOp{Kind: api.CellAdd, Cell: cell, A: most - 9, B: 99}, 0)
		do(t, a, api.CellOp{Kind: api.CellStore, Cell: cell, A: most}, 0)
		do(t, a, api.CellOp{Kind: api.CellLoad, Cell: cell}, most)
	}
	has(t, a, most, most, 0, 0)
}

// P3.4: the Kinds' numbers are the document's.
func TestKindsOfDo(t *testing.T) {
	a := arena(t, 1, 1)
	do(t, a, api.CellOp{Kind: 2, A: 5, B: 6}, 0)
	do(t, a, api.CellOp{Kind: 1, A: 1, B: 2}, 5)
	do(t, a, api.CellOp{Kind: 3, A: 5, B: 6}, 1)
	do(t, a, api.CellOp{Kind: 4, A: 5, B: 6}, 11)
}

// P3.4: a Kind that is none is told ahead of a cell that is none.
func TestDoRefusesOtherKinds(t *testing.T) {
	a := arena(t, 3, 2)
	ok(t, a.Store(0, 5))
	steps := a.Steps()
	for _, kind := range []int{math.MinInt, -4, -1, 0, 5, 6, 257, 1 << 32, 1<<32 + 1, math.MaxInt} {
		for _, cell := range []int{math.MinInt, -1, 0, 1, 2, 3, math.MaxInt} {
			op := api.CellOp{Kind: kind, Cell: cell, A: 5, B: 9}
			if v, e := a.Do(op); v != 0 || e != api.ErrArg {
				t.Errorf("Do(%+v): %d, %v", op, v, e)
			}
		}
	}
	counts(t, a, 2, steps)
	has(t, a, 5, 0)
}

// P3.5: what counts as a step: what is answered without an error, of Load, Store, CAS and Add alone, by themselves or by Do.
func TestWhatIsAStep(t *testing.T) {
	a, _ := cells.New(2)
	a.Alloc()
	a.Alloc()
	a.Alloc()
	a.Free(1)
	a.Free(1)
	a.Used()
	a.Steps()
	counts(t, a, 1, 0)
	for i, step := range []func(){
		func() { a.Load(0) },
		func() { a.Store(0, 0) },
		func() { a.Store(0, 4) },
		func() { a.CAS(0, 4, 5) },
		func() { a.CAS(0, 4, 5) },
		func() { a.CAS(0, 5, 5) },
		func() { a.Add(0, 0) },
		func() { a.Add(0, most) },
		func() { a.Do(api.CellOp{Kind: api.CellLoad}) },
		func() { a.Do(api.CellOp{Kind: api.CellStore}) },
		func() { a.Do(api.CellOp{Kind: api.CellCAS, A: 1}) },
		func() { a.Do(api.CellOp{Kind: api.CellCAS}) },
		func() { a.Do(api.CellOp{Kind: api.CellAdd}) },
	} {
		step()
		counts(t, a, 1, i+1)
	}
	a.Alloc()
	a.Free(0)
	refuses(t, a, 0, api.ErrCellsNone)
	a.Do(api.CellOp{Cell: 1})
	counts(t, a, 1, 13)
}

// P3.5: a nil arena, ahead of whatever else is wrong.
func TestNilArena(t *testing.T) {
	var a *cells.Arena
	if cell, e := a.Alloc(); cell != 0 || e != api.ErrNil {
		t.Error(cell, e)
	}
	for _, cell := range []int{math.MinInt, -1, 0, 1, api.MaxCells, math.MaxInt} {
		want(t, a.Free(cell), api.ErrNil)
		refuses(t, a, cell, api.ErrNil)
		for _, kind := range []int{math.MinInt, 0, 5, math.MaxInt} {
			if v, e := a.Do(api.CellOp{Kind: kind, Cell: cell}); v != 0 || e != api.ErrNil {
				t.Error(v, e)
			}
		}
	}
	if a.Used() != 0 || a.Steps() != 0 {
		t.Error(a.Used(), a.Steps())
	}
}

// R1: an arena that New did not give has no cells.
func TestEmptyArena(t *testing.T) {
	a := new(cells.Arena)
	full(t, a)
	for _, cell := range []int{-1, 0, 1, api.MaxCells} {
		want(t, a.Free(cell), api.ErrCellsNone)
		refuses(t, a, cell, api.ErrCellsNone)
	}
	counts(t, a, 0, 0)
}

// R4: arenas have nothing in common.
func TestArenasAreApart(t *testing.T) {
	a, b := arena(t, 2, 0), arena(t, 2, 0)
	takes(t, a, 0)
	ok(t, a.Store(0, 5))
	counts(t, b, 0, 0)
	refuses(t, b, 0, api.ErrCellsNone)
	takes(t, b, 0)
	ok(t, b.Free(0))
	load(t, a, 0, 5)
	counts(t, b, 0, 1)
}

// P3.6: each step, on each cell, leaves all other cells as they were.
func TestAStepChangesOneCell(t *testing.T) {
	const size = 130
	a := arena(t, size, size)
	for cell := range size {
		ok(t, a.Store(cell, uint64(cell)+1000))
	}
	for cell := range size {
		for i, step := range []func(){
			func() { a.Load(cell) },
			func() { a.Store(cell, 3) },
			func() { a.CAS(cell, 3, 4) },
			func() { a.CAS(cell, 3, 5) },
			func() { a.Add(cell, most) },
			func() { a.Free(cell); a.Alloc() },
			func() { a.Store(cell, uint64(cell)+2000) },
		} {
			before := numbers(t, a, size)
			step()
			after := numbers(t, a, size)
			before[cell] = after[cell]
			if !slices.Equal(before, after) {
				t.Fatalf("step %d of cell %d changed another", i, cell)
			}
		}
		load(t, a, cell, uint64(cell)+2000)
	}
}

// orders hands on the numbers in each order.
func orders(ns []uint64, each func([]uint64)) {
	var from func(k int)
	from = func(k int) {
		if k >= len(ns) {
			each(ns)
			return
		}
		for i := k; i < len(ns); i++ {
			ns[k], ns[i] = ns[i], ns[k]
			from(k + 1)
			ns[k], ns[i] = ns[i], ns[k]
		}
	}
	from(0)
}

// P3.6: Adds come to the same in every order.
func TestAddsInEveryOrder(t *testing.T) {
	a := arena(t, 2, 2)
	ns := []uint64{1, 10, 1 << 63, 1<<63 + 5, most, most - 2}
	var sum uint64
	for _, n := range ns {
		sum += n
	}
	tried := 0
	orders(ns, func(ns []uint64) {
		tried++
		ok(t, a.Store(1, 40))
		for _, n := range ns {
			_, e := a.Add(1, n)
			ok(t, e)
		}
		load(t, a, 1, 40+sum)
	})
	if tried != 720 {
		t.Error(tried)
	}
}

// P3.6: of several CAS from one number just the first is true, in whichever order they come.
func TestTheFirstCASIsTrue(t *testing.T) {
	a := arena(t, 2, 2)
	for _, from := range []uint64{0, 9, most} {
		orders([]uint64{1, 2, 3, 1 << 63}, func(ns []uint64) {
			ok(t, a.Store(1, from))
			for i, now := range ns {
				cas(t, a, 1, from, now, i == 0)
				load(t, a, 1, ns[0])
			}
		})
	}
}
