package sched_test

import (
	"math/rand"
	"slices"
	"testing"

	"varve/api"
	"varve/sched"
)

// plainRun is Run told more plainly, of what may be run: which operation is next is counted, the cells are a list.
func plainRun(size int, programs [][]api.CellOp, picks []int) result {
	r := result{answers: make([][]uint64, len(programs)), cells: make([]uint64, size)}
	for _, p := range picks {
		if p < 0 || p >= len(programs) || len(r.answers[p]) == len(programs[p]) {
			continue
		}
		r.done++
		op := programs[p][len(r.answers[p])]
		cell := &r.cells[op.Cell]
		answer := *cell
		switch op.Kind {
		case 2:
			*cell, answer = op.A, 0
		case 3:
			answer = 0
			if *cell == op.A {
				*cell, answer = op.B, 1
			}
		case 4:
			*cell += op.A
			answer = *cell
		}
		r.answers[p] = append(r.answers[p], answer)
	}
	return r
}

// plainTurns is Turns told more plainly, of what may be asked: it looks back through the list, word for word as P7.2 says it.
func plainTurns(workers, window int, picks []int) []int {
	var list []int
	for _, pick := range picks {
		if pick < 0 || pick >= workers {
			continue
		}
		for {
			who, longest := -1, -1
			for w := range workers {
				behind := 0
				for behind < len(list) && list[len(list)-1-behind] != w {
					behind++
				}
				came := behind < len(list)
				late := !came && len(list) >= window-workers || came && !slices.Contains(list[max(0, len(list)-(window-workers)):], w)
				if !came {
					behind++ // it has waited longer than one who came first
				}
				if late && behind > longest {
					who, longest = w, behind
				}
			}
			if who < 0 {
				break
			}
			list = append(list, who)
		}
		list = append(list, pick)
	}
	return list
}

func someOp(r *rand.Rand, size int) api.CellOp {
	ns := []uint64{0, 1, 2, 3, 1 << 63, 1<<64 - 1}
	return api.CellOp{Kind: 1 + r.Intn(4), Cell: r.Intn(size), A: ns[r.Intn(len(ns))], B: ns[r.Intn(len(ns))]}
}

func somePrograms(r *rand.Rand, size, most int) [][]api.CellOp {
	programs := make([][]api.CellOp, r.Intn(most+1))
	for i := range programs {
		for range r.Intn(8) {
			programs[i] = append(programs[i], someOp(r, size))
		}
	}
	return programs
}

func somePicks(r *rand.Rand, workers, most int) []int {
	picks := make([]int, r.Intn(most+1))
	for i := range picks {
		picks[i] = r.Intn(workers+4) - 2
	}
	return picks
}

// P7.1, P7.4: programs and picks of all sorts, against the plainer Run, whose order is the picks' own.
func TestRunAsToldPlainly(t *testing.T) {
	r := rand.New(rand.NewSource(7))
	for range 20000 {
		size := 1 + r.Intn(4)
		programs := somePrograms(r, size, api.MaxWorkers)
		picks := somePicks(r, len(programs), 120)
		runs(t, size, programs, picks, plainRun(size, programs, picks))
	}
}

// P7.1: what may not be run, by one thing that is wrong at some place.
func TestRunRefusesOneWrongThing(t *testing.T) {
	r := rand.New(rand.NewSource(71))
	for range 5000 {
		size := 1 + r.Intn(4)
		programs := append(somePrograms(r, size, 14), []api.CellOp{someOp(r, size), someOp(r, size)})
		ops := programs[len(programs)-1]
		op := &ops[r.Intn(len(ops))]
		if r.Intn(2) == 0 {
			op.Kind = []int{-1, 0, 5, 6, 256 + 1}[r.Intn(5)]
		} else {
			op.Cell = []int{-1, -size, size, size + 1, 1 << 32}[r.Intn(5)]
		}
		r.Shuffle(len(programs), func(i, j int) { programs[i], programs[j] = programs[j], programs[i] })
		refusesRun(t, size, programs, somePicks(r, len(programs), 9))
	}
}

// P7.2: all lists of few picks, of few workers, in their least windows.
func TestTurnsOfAllShortPicks(t *testing.T) {
	for workers := 1; workers <= 3; workers++ {
		for window := 2 * workers; window <= 2*workers+3; window++ {
			everyList(workers, 8, func(picks []int) {
				turns(t, workers, window, picks, plainTurns(workers, window, picks))
			})
		}
	}
}

// everyList hands on each list of up to so many numbers from 0 to below n.
func everyList(n, most int, use func([]int)) {
	list := []int{}
	var grow func()
	grow = func() {
		use(list)
		if len(list) == most {
			return
		}
		for i := range n {
			list = append(list, i)
			grow()
			list = list[:len(list)-1]
		}
	}
	grow()
}

// P7.2, P7.3: picks of all sorts, few workers favoured, so that the others wait.
func TestTurnsAsToldPlainly(t *testing.T) {
	r := rand.New(rand.NewSource(72))
	for range 4000 {
		workers := 1 + r.Intn(api.MaxWorkers)
		window := 2*workers + r.Intn(12)
		if r.Intn(9) == 0 {
			window = 1000 - r.Intn(900)
		}
		picks := somePicks(r, 1+r.Intn(workers), 150)
		want := plainTurns(workers, window, picks)
		turns(t, workers, window, picks, want)
		fair(t, workers, window, want)
	}
}

// P7.2: who came once and has not come since is held against those that never came, all along.
func TestTurnsOfLongPicksAsToldPlainly(t *testing.T) {
	r := rand.New(rand.NewSource(73))
	for range 20 {
		workers := 2 + r.Intn(15)
		window := 2*workers + r.Intn(1000-2*workers+1)
		picks := make([]int, 3000)
		for i := range picks {
			picks[i] = r.Intn(1 + r.Intn(workers))
		}
		list, e := sched.Turns(workers, window, picks)
		if want := plainTurns(workers, window, picks); e != api.OK || !slices.Equal(list, want) {
			t.Fatalf("Turns(%d, %d): %v, %s", workers, window, e, firstApart(list, want))
		}
		fair(t, workers, window, list)
	}
}
