package cells_test

import (
	"math/rand"
	"testing"

	"varve/api"
	"varve/cells"
)

// plain is an arena told more plainly: the taken cells in a map, the least free one sought from 0 on.
type plain struct {
	size, steps int
	has         map[int]uint64
}

func (p *plain) alloc() (int, api.Errno) {
	for cell := range p.size {
		if _, taken := p.has[cell]; !taken {
			p.has[cell] = 0
			return cell, api.OK
		}
	}
	return 0, api.ErrCellsFull
}

func (p *plain) free(cell int) api.Errno {
	if _, taken := p.has[cell]; !taken {
		return api.ErrCellsNone
	}
	delete(p.has, cell)
	return api.OK
}

func (p *plain) do(op api.CellOp) (uint64, api.Errno) {
	if op.Kind < 1 || op.Kind > 4 {
		return 0, api.ErrArg
	}
	v, taken := p.has[op.Cell]
	if !taken {
		return 0, api.ErrCellsNone
	}
	p.steps++
	switch {
	case op.Kind == 1:
		return v, api.OK
	case op.Kind == 2:
		p.has[op.Cell] = op.A
	case op.Kind == 3 && v == op.A:
		p.has[op.Cell] = op.B
		return 1, api.OK
	case op.Kind == 4:
		p.has[op.Cell] = v + op.A
		return v + op.A, api.OK
	}
	return 0, api.OK
}

// byItself does an op of a right Kind by the call that is named for it.
func byItself(a *cells.Arena, op api.CellOp) (uint64, api.Errno) {
	switch op.Kind {
	case api.CellLoad:
		return a.Load(op.Cell)
	case api.CellStore:
		return 0, a.Store(op.Cell, op.A)
	case api.CellCAS:
		done, e := a.CAS(op.Cell, op.A, op.B)
		if done {
			return 1, e
		}
		return 0, e
	}
	return a.Add(op.Cell, op.A)
}

func anyOp(r *rand.Rand, size int) api.CellOp {
	ns := []uint64{0, 1, 2, 3, most, most - 1, 1 << 63}
	return api.CellOp{
		Kind: r.Intn(6),
		Cell: r.Intn(size+4) - 2,
		A:    ns[r.Intn(len(ns))],
		B:    ns[r.Intn(len(ns))],
	}
}

// P3.1 to P3.6: calls as they come are answered as the plainer arena answers them.
func TestAgainstThePlainOne(t *testing.T) {
	for seed, size := range []int{1, 2, 3, 5, 63, 64, 65, 100, 128, 129, 200} {
		r := rand.New(rand.NewSource(int64(seed)))
		a := arena(t, size, 0)
		p := &plain{size: size, has: map[int]uint64{}}
		for i := range 20000 {
			filling := i/1000%2 == 0 // by turns the arena fills and empties
			switch n := r.Intn(10); {
			case n < 2 || filling && n < 4:
				got, e := a.Alloc()
				want, f := p.alloc()
				if got != want || e != f {
					t.Fatalf("size %d, call %d: Alloc: %d, %v, not %d, %v", size, i, got, e, want, f)
				}
			case n < 5:
				cell := r.Intn(size+4) - 2
				if e, f := a.Free(cell), p.free(cell); e != f {
					t.Fatalf("size %d, call %d: Free(%d): %v, not %v", size, i, cell, e, f)
				}
			default:
				op := anyOp(r, size)
				call := a.Do
				if op.Kind >= 1 && op.Kind <= 4 && n%2 == 0 {
					call = func(op api.CellOp) (uint64, api.Errno) { return byItself(a, op) }
				}
				got, e := call(op)
				want, f := p.do(op)
				if got != want || e != f {
					t.Fatalf("size %d, call %d: %+v: %d, %v, not %d, %v", size, i, op, got, e, want, f)
				}
			}
			if a.Used() != len(p.has) || a.Steps() != p.steps {
				t.Fatalf("size %d, call %d: used %d, steps %d, not %d, %d", size, i, a.Used(), a.Steps(), len(p.has), p.steps)
			}
		}
	}
}
