package store_test

import (
	"math"
	"slices"
	"strings"
	"testing"
	"unsafe"

	"varve/api"
	"varve/cells"
	"varve/store"
	"varve/word"
)

const (
	owners    uint64 = 1 << 63 // the owner n is this and n
	preparing uint64 = 1 << 62
	committed uint64 = 2 << 62
	aborted   uint64 = 3 << 62
	most      uint64 = math.MaxUint64
)

func arena(t *testing.T, size int) *cells.Arena {
	t.Helper()
	a, e := cells.New(size)
	if e != api.OK {
		t.Fatalf("cells.New(%d): %v", size, e)
	}
	return a
}

// room is a store, and its arena of so many cells.
func room(t *testing.T, size int) (*store.Store, *cells.Arena) {
	t.Helper()
	a := arena(t, size)
	s, e := store.New(a)
	if s == nil || e != api.OK {
		t.Fatalf("New: %v, %v", s, e)
	}
	return s, a
}

// is holds what a call answered against what it should.
func is[T comparable](t *testing.T, what string, got T, e api.Errno, want T, code api.Errno) {
	t.Helper()
	if got != want || e != code {
		t.Errorf("%s: %v, %d; not %v, %d", what, got, int(e), want, int(code))
	}
}

func code(t *testing.T, what string, got, want api.Errno) {
	t.Helper()
	if got != want {
		t.Errorf("%s: %d, not %d", what, int(got), int(want))
	}
}

func makesNode(t *testing.T, s *store.Store, want int) {
	t.Helper()
	n, e := s.Node()
	is(t, "Node", n, e, want, api.OK)
}

func makesVersion(t *testing.T, s *store.Store, val string, begin uint64, next, want int) {
	t.Helper()
	n, e := s.Version(val, begin, next)
	is(t, "Version", n, e, want, api.OK)
}

func makesTxn(t *testing.T, s *store.Store, want int) {
	t.Helper()
	n, e := s.Txn()
	is(t, "Txn", n, e, want, api.OK)
}

func refusesVersion(t *testing.T, s *store.Store, val string, begin uint64, next int, want api.Errno) {
	t.Helper()
	n, e := s.Version(val, begin, next)
	is(t, "Version", n, e, 0, want)
}

func pushes(t *testing.T, s *store.Store, node, old, now int, want bool) {
	t.Helper()
	got, e := s.Push(node, old, now)
	is(t, "Push", got, e, want, api.OK)
}

func cuts(t *testing.T, s *store.Store, version, want int) {
	t.Helper()
	n, e := s.Cut(version)
	is(t, "Cut", n, e, want, api.OK)
}

func hasHead(t *testing.T, s *store.Store, node, want int) {
	t.Helper()
	n, e := s.Head(node)
	is(t, "Head", n, e, want, api.OK)
}

func hasNext(t *testing.T, s *store.Store, version, want int) {
	t.Helper()
	n, e := s.Next(version)
	is(t, "Next", n, e, want, api.OK)
}

func hasBegin(t *testing.T, s *store.Store, version int, want uint64) {
	t.Helper()
	w, e := s.Begin(version)
	is(t, "Begin", w, e, want, api.OK)
}

func hasEnd(t *testing.T, s *store.Store, version int, want uint64) {
	t.Helper()
	w, e := s.End(version)
	is(t, "End", w, e, want, api.OK)
}

func hasVal(t *testing.T, s *store.Store, version int, want string) {
	t.Helper()
	val, e := s.Val(version)
	is(t, "Val", val, e, want, api.OK)
}

func hasState(t *testing.T, s *store.Store, txn int, want uint64) {
	t.Helper()
	w, e := s.State(txn)
	is(t, "State", w, e, want, api.OK)
}

func hasLock(t *testing.T, s *store.Store, node int, want uint64) {
	t.Helper()
	w, e := s.Lock(node)
	is(t, "Lock", w, e, want, api.OK)
}

func hasChain(t *testing.T, s *store.Store, node int, want ...int) {
	t.Helper()
	if got := s.Chain(node); !slices.Equal(got, want) {
		t.Errorf("Chain(%d): %v, not %v", node, got, want)
	}
}

func noVersion(t *testing.T, s *store.Store, versions ...int) {
	t.Helper()
	for _, v := range versions {
		w, e := s.Begin(v)
		is(t, "Begin of none", w, e, 0, api.ErrStoreNone)
		val, e := s.Val(v)
		is(t, "Val of none", val, e, "", api.ErrStoreNone)
	}
}

func uses(t *testing.T, a *cells.Arena, want int) {
	t.Helper()
	if a.Used() != want {
		t.Errorf("used: %d, not %d", a.Used(), want)
	}
}

// grown makes a node, the next one in the store, with a chain of so many new versions, the oldest made first.
func grown(t *testing.T, s *store.Store, versions int) (int, []int) {
	t.Helper()
	node, e := s.Node()
	code(t, "Node", e, api.OK)
	head := 0
	var chain []int
	for i := range versions {
		v, e := s.Version(strings.Repeat("v", i%65), uint64(i), head)
		code(t, "Version", e, api.OK)
		pushes(t, s, node, head, v, true)
		head = v
		chain = slices.Insert(chain, 0, v)
	}
	hasChain(t, s, node, chain...)
	return node, chain
}

// cell is all that can be told of one.
type cell struct {
	number uint64
	code   api.Errno
}

// shown is all cells of an arena of that size. (It takes steps of the arena, and changes nothing else.)
func shown(a *cells.Arena, size int) []cell {
	all := make([]cell, size)
	for i := range all {
		all[i].number, all[i].code = a.Load(i)
	}
	return all
}

// changed is how many cells are other than they were, taken, free, or with another number.
func changed(before, after []cell) int {
	n := 0
	for i := range before {
		if before[i] != after[i] {
			n++
		}
	}
	return n
}

// costs does something: how many steps of the arena it takes, and how many cells are other behind it.
func costs(a *cells.Arena, size int, do func()) (int, int) {
	before := shown(a, size)
	steps := a.Steps()
	do()
	steps = a.Steps() - steps
	return steps, changed(before, shown(a, size))
}

// changesNothing does something that takes no step, and leaves all cells as they were.
func changesNothing(t *testing.T, what string, a *cells.Arena, size int, do func()) {
	t.Helper()
	if steps, others := costs(a, size, do); steps != 0 || others != 0 {
		t.Errorf("%s: %d steps, %d cells changed", what, steps, others)
	}
}

func TestExamples(t *testing.T) {
	s, a := room(t, 100)
	makesNode(t, s, 1)
	makesVersion(t, s, "x", 5, 0, 1)
	pushes(t, s, 1, 0, 1, true)
	pushes(t, s, 1, 0, 1, false)
	hasHead(t, s, 1, 1)
	hasChain(t, s, 1, 1)

	one, _ := word.Owner(1)
	two, _ := word.Owner(2)
	hasEnd(t, s, 1, word.Never)
	done, e := s.TakeEnd(1, word.Never, one)
	is(t, "TakeEnd", done, e, true, api.OK)
	done, e = s.TakeEnd(1, word.Never, two)
	is(t, "TakeEnd", done, e, false, api.OK)
	hasEnd(t, s, 1, one)

	makesTxn(t, s, 1)
	hasState(t, s, 1, 0)
	w, _ := word.State(api.Preparing, 0)
	code(t, "SetState", s.SetState(1, w), api.OK)
	code(t, "Forget", s.Forget(1), api.OK)
	w, e = s.State(1)
	is(t, "State", w, e, 0, api.ErrStoreNone)
	makesTxn(t, s, 2)

	makesVersion(t, s, "y", 6, 1, 2)
	pushes(t, s, 1, 1, 2, true)
	cuts(t, s, 2, 1)
	noVersion(t, s, 1)
	code(t, "Drop", s.Drop(1), api.OK)
	hasHead(t, s, 1, 0)

	refusesVersion(t, s, strings.Repeat("v", 65), 5, 0, api.ErrStoreValue)
	refusesVersion(t, s, "", word.Never, 0, api.ErrWordForm)
	refusesVersion(t, s, "", 5, 9, api.ErrStoreNone)
	n, e := s.Head(9)
	is(t, "Head", n, e, 0, api.ErrStoreNone)
	uses(t, a, 3)
}

// P11.1: New of nil, and of an arena, of which it takes nothing.
func TestNew(t *testing.T) {
	if s, e := store.New(nil); s != nil || e != api.ErrNil {
		t.Errorf("New(nil): %v, %v", s, e)
	}
	a := arena(t, 10)
	a.Alloc()
	a.Store(0, 7)
	var s *store.Store
	changesNothing(t, "New", a, 10, func() { s, _ = store.New(a) })
	uses(t, a, 1)
	for _, none := range []int{0, 1} {
		n, e := s.Head(none)
		is(t, "Head in a new store", n, e, 0, api.ErrStoreNone)
		w, e := s.State(none)
		is(t, "State in a new store", w, e, 0, api.ErrStoreNone)
		noVersion(t, s, none)
		hasChain(t, s, none)
	}
	makesNode(t, s, 1)
	makesVersion(t, s, "", 0, 0, 1)
	makesTxn(t, s, 1)
	if v, e := a.Load(0); v != 7 || e != api.OK {
		t.Errorf("the cell that was taken before: %d, %v", v, e)
	}
}

// P11.1: the arena of a store is worked on, not another one.
func TestAStoreWorksOnItsArena(t *testing.T) {
	s, a := room(t, 20)
	other, b := room(t, 20)
	grown(t, s, 2)
	if s.Used() != a.Used() || s.Steps() != a.Steps() {
		t.Error("the store's cells are not its arena's")
	}
	uses(t, a, 8)
	uses(t, b, 0)
	noVersion(t, other, 1)
	makesNode(t, other, 1)
	hasHead(t, other, 1, 0)
	hasHead(t, s, 1, 2)
}

// P11.1: two stores in one arena have each its own numbers and cells.
func TestTwoStoresInOneArena(t *testing.T) {
	s, a := room(t, 40)
	other, e := store.New(a)
	code(t, "New", e, api.OK)
	grown(t, s, 2)
	grown(t, other, 3)
	makesTxn(t, s, 1)
	makesTxn(t, other, 1)
	uses(t, a, 8+11+2)
	cuts(t, other, 3, 2)
	code(t, "SetState", other.SetState(1, aborted), api.OK)
	hasChain(t, s, 1, 2, 1)
	hasState(t, s, 1, 0)
	code(t, "Drop", s.Drop(1), api.OK)
	hasChain(t, other, 1, 3)
	uses(t, a, 5+5+2)
}

// P11.1: numbers from 1 on, each kind by itself.
func TestEachKindIsNumberedByItself(t *testing.T) {
	s, a := room(t, 200)
	makesVersion(t, s, "", 0, 0, 1)
	makesVersion(t, s, "", 0, 0, 2)
	makesTxn(t, s, 1)
	makesNode(t, s, 1)
	makesVersion(t, s, "", 0, 2, 3)
	makesTxn(t, s, 2)
	makesTxn(t, s, 3)
	makesTxn(t, s, 4)
	makesNode(t, s, 2)
	makesVersion(t, s, "", 0, 0, 4)
	uses(t, a, 2*2+4*3+4)
	for i := 3; i <= 20; i++ {
		makesNode(t, s, i)
		makesTxn(t, s, i+2)
		makesVersion(t, s, "", 0, i, i+2)
	}
}

// P11.1: numbers are not given again, though the cells are.
func TestNumbersAreNotGivenAgain(t *testing.T) {
	s, a := room(t, 100)
	makesNode(t, s, 1)
	version, txn := 0, 0
	for range 50 {
		version++
		makesVersion(t, s, "", 5, 0, version)
		pushes(t, s, 1, 0, version, true)
		code(t, "Drop", s.Drop(1), api.OK)
		txn++
		makesTxn(t, s, txn)
		code(t, "Forget", s.Forget(txn), api.OK)
		uses(t, a, 2)
	}
	for range 20 {
		makesVersion(t, s, "", 5, 0, version+1)
		makesVersion(t, s, "", 5, version+1, version+2)
		makesVersion(t, s, "", 5, version+2, version+3)
		cuts(t, s, version+3, 2)
		makesVersion(t, s, "", 5, version+3, version+4)
		cuts(t, s, version+4, 1)
		version += 4
		pushes(t, s, 1, 0, version, true)
		code(t, "Drop", s.Drop(1), api.OK)
		uses(t, a, 2)
	}
	noVersion(t, s, 1, 2, 50, 51, version)
	for _, gone := range []int{1, 2, 49, txn} {
		w, e := s.State(gone)
		is(t, "State", w, e, 0, api.ErrStoreNone)
	}
	makesNode(t, s, 2)
}

// fillAllBut takes all cells of an arena, with numbers of their own, but for so many, which stand here and there.
func fillAllBut(a *cells.Arena, size, free int) {
	for i := range size {
		a.Alloc()
		a.Store(i, uint64(i)+1000)
	}
	for i := range free {
		a.Free(i*size/free + size/free/2)
	}
}

// P11.1: with too few free cells none is taken, and no number used up; with just enough it is made.
func TestTooFewFreeCells(t *testing.T) {
	const size = 30
	for _, kind := range []struct {
		name  string
		takes int
		make  func(s *store.Store) (int, api.Errno)
	}{
		{"Node", 2, (*store.Store).Node},
		{"Version", 3, func(s *store.Store) (int, api.Errno) { return s.Version("v", 5, 0) }},
		{"Txn", 1, (*store.Store).Txn},
	} {
		for free := range kind.takes {
			a := arena(t, size)
			fillAllBut(a, size, free)
			s, _ := store.New(a)
			for range 3 {
				changesNothing(t, kind.name, a, size, func() {
					n, e := kind.make(s)
					is(t, kind.name, n, e, 0, api.ErrCellsFull)
				})
				uses(t, a, size-free)
			}
		}
		a := arena(t, size)
		fillAllBut(a, size, kind.takes)
		s, _ := store.New(a)
		n, e := kind.make(s)
		is(t, kind.name+" with just enough", n, e, 1, api.OK)
		uses(t, a, size)
		n, e = kind.make(s)
		is(t, kind.name+" in a full arena", n, e, 0, api.ErrCellsFull)
		for cell := 0; a.Used() > size-kind.takes; cell++ {
			if v, e := a.Load(cell); e == api.OK && v == uint64(cell)+1000 {
				a.Free(cell)
			}
		}
		n, e = kind.make(s)
		is(t, kind.name+" behind one that was refused", n, e, 2, api.OK)
		uses(t, a, size)
	}
}

// P11.1: transactions' numbers are below MaxTxns, however many were forgotten.
func TestTxnsUpToTheLast(t *testing.T) {
	s, a := room(t, 10)
	makesTxn(t, s, 1)
	for want := 2; want < api.MaxTxns; want++ {
		if n, e := s.Txn(); n != want || e != api.OK {
			t.Fatalf("Txn: %d, %v, not %d", n, e, want)
		}
		if want < api.MaxTxns-1 {
			if e := s.Forget(want); e != api.OK {
				t.Fatalf("Forget(%d): %v", want, e)
			}
		}
	}
	for range 3 {
		changesNothing(t, "Txn", a, 10, func() {
			n, e := s.Txn()
			is(t, "Txn behind the last", n, e, 0, api.ErrCellsFull)
		})
		uses(t, a, 2)
	}
	hasState(t, s, api.MaxTxns-1, 0)
	code(t, "SetState", s.SetState(api.MaxTxns-1, aborted), api.OK)
	hasState(t, s, 1, 0)
	code(t, "Forget", s.Forget(api.MaxTxns-1), api.OK)
	n, e := s.Txn()
	is(t, "Txn behind the last that was forgotten", n, e, 0, api.ErrCellsFull)
	w, e := s.State(api.MaxTxns)
	is(t, "State", w, e, 0, api.ErrStoreNone)
	makesNode(t, s, 1)
	makesVersion(t, s, "", 5, 0, 1)
}

// P11.1, Words: how each begins, in cells that others have left, too.
func TestHowEachBegins(t *testing.T) {
	const size = 20
	a := arena(t, size)
	for i := range size {
		a.Alloc()
		a.Store(i, most-uint64(i))
	}
	for i := range size {
		a.Free(i)
	}
	s, _ := store.New(a)
	for n := 1; n <= 2; n++ {
		makesNode(t, s, n)
		hasHead(t, s, n, 0)
		hasLock(t, s, n, 0)
		hasChain(t, s, n)
		makesVersion(t, s, "v", uint64(n)*3, n-1, n)
		hasBegin(t, s, n, uint64(n)*3)
		hasEnd(t, s, n, 1<<40)
		hasNext(t, s, n, n-1)
		hasVal(t, s, n, "v")
		makesTxn(t, s, n)
		hasState(t, s, n, 0)
		hasHead(t, s, n, 0)
		hasChain(t, s, n)
	}
	makesVersion(t, s, "", 0, 0, 3)
	hasBegin(t, s, 3, 0)
	hasEnd(t, s, 3, word.Never)
	hasNext(t, s, 3, 0)
}

// P11.1: values of at most 64 bytes, any.
func TestValues(t *testing.T) {
	const size = 300
	s, a := room(t, size)
	every := make([]byte, 256)
	for i := range every {
		every[i] = byte(i)
	}
	n := 0
	for _, val := range []string{"", "\x00", "a", strings.Repeat("v", 63), strings.Repeat("v", 64), string(every[:64]), string(every[64:128]), string(every[128:192]), string(every[192:]), strings.Repeat("é", 32)} {
		n++
		makesVersion(t, s, val, 5, 0, n)
		hasVal(t, s, n, val)
	}
	hasVal(t, s, 1, "")
	hasVal(t, s, 4, strings.Repeat("v", 63))
	for _, val := range []string{strings.Repeat("v", 65), strings.Repeat("\x00", 66), strings.Repeat("é", 33), strings.Repeat("v", 128), strings.Repeat("v", 100000)} {
		changesNothing(t, "Version", a, size, func() { refusesVersion(t, s, val, 5, 0, api.ErrStoreValue) })
	}
	makesVersion(t, s, "", 5, 0, n+1)
}

// What may be begins and ends, ends alone, or neither.
func begins() []uint64 {
	return []uint64{0, 1, 5, 1<<32 - 1, 1 << 32, 1<<40 - 1, owners + 1, owners + 2, owners + 1<<19, owners + 1<<20 - 1}
}

func noWords() []uint64 {
	return []uint64{1<<40 + 1, 1<<40 + 5, 1 << 41, 1 << 62, 1<<62 + 5, 1<<63 - 1, owners, owners + 1<<20, owners + 1<<20 + 1, owners + 1<<40, aborted, most - 1, most}
}

// P11.1: each kind of begin.
func TestBegins(t *testing.T) {
	const size = 100
	s, a := room(t, size)
	n := 0
	for _, w := range begins() {
		n++
		makesVersion(t, s, "", w, 0, n)
		hasBegin(t, s, n, w)
		hasEnd(t, s, n, word.Never)
	}
	for _, w := range append(noWords(), word.Never) {
		changesNothing(t, "Version", a, size, func() { refusesVersion(t, s, "", w, 0, api.ErrWordForm) })
	}
	makesVersion(t, s, "", 5, 0, n+1)
}

// P11.1: next is 0, or any version, in a chain or in none.
func TestNexts(t *testing.T) {
	const size = 100
	s, a := room(t, size)
	grown(t, s, 4)
	makesVersion(t, s, "", 5, 0, 5)
	made := 5
	for _, next := range []int{0, 4, 5, 1, 2, 6, 6} {
		made++
		makesVersion(t, s, "", 5, next, made)
		hasNext(t, s, made, next)
	}
	hasChain(t, s, 1, 4, 3, 2, 1)
	cuts(t, s, 3, 2)
	code(t, "Drop", s.Drop(1), api.OK)
	for _, next := range []int{1, 2, 4, made + 1, made + 2, 1000, -1, -3, math.MinInt, math.MinInt + 3, math.MaxInt, 1<<32 + 3} {
		changesNothing(t, "Version", a, size, func() { refusesVersion(t, s, "", 5, next, api.ErrStoreNone) })
	}
	makesVersion(t, s, "", 5, 3, made+1)
}

// P11.1: which error of Version comes first.
func TestFirstErrorOfVersion(t *testing.T) {
	long := strings.Repeat("v", 65)
	for _, free := range []int{0, 2, 3} {
		a := arena(t, 10)
		fillAllBut(a, 10, free)
		s, _ := store.New(a)
		for _, val := range []string{"v", long} {
			for _, begin := range []uint64{5, word.Never, most} {
				for _, next := range []int{0, 1, -1} {
					want := api.ErrCellsFull
					switch {
					case val == long:
						want = api.ErrStoreValue
					case begin != 5:
						want = api.ErrWordForm
					case next != 0:
						want = api.ErrStoreNone
					case free == 3:
						continue
					}
					changesNothing(t, "Version", a, 10, func() { refusesVersion(t, s, val, begin, next, want) })
				}
			}
		}
		if free == 3 {
			makesVersion(t, s, "v", 5, 0, 1)
		}
	}
}

// populated has nodes 1 to 4 (the first with the chain 3 2, the second with 5), versions 2, 3, 5 and 6 (1 was cut off, 4 dropped, 6 is in no chain), and transactions 2 and 3 (1 was forgotten).
func populated(t *testing.T) (*store.Store, *cells.Arena) {
	t.Helper()
	s, a := room(t, populatedSize)
	grown(t, s, 3)
	cuts(t, s, 2, 1)
	grown(t, s, 1)
	code(t, "Drop", s.Drop(2), api.OK)
	makesVersion(t, s, "five", 7, 0, 5)
	pushes(t, s, 2, 0, 5, true)
	makesVersion(t, s, "six", 8, 5, 6)
	makesNode(t, s, 3)
	makesNode(t, s, 4)
	for txn := 1; txn <= 3; txn++ {
		makesTxn(t, s, txn)
	}
	code(t, "Forget", s.Forget(1), api.OK)
	hasChain(t, s, 1, 3, 2)
	hasChain(t, s, 2, 5)
	uses(t, a, 4*2+4*3+2)
	return s, a
}

const populatedSize = 40

func noneAnywhere() []int {
	return []int{0, -1, -2, -5, 7, 8, 100, 1 << 20, 1<<32 + 2, 1<<32 + 5, math.MinInt, math.MinInt + 2, math.MaxInt}
}

// P11.2, P11.3: the errors of each call for what is no node, version or transaction, ahead of words that are none; nothing is changed, and no step taken.
func TestWhatIsNone(t *testing.T) {
	s, a := populated(t)
	refused := func(what string, do func() (bool, api.Errno)) {
		t.Helper()
		changesNothing(t, what, a, populatedSize, func() {
			zero, e := do()
			is(t, what, zero, e, true, api.ErrStoreNone)
		})
	}
	for _, node := range append(noneAnywhere(), 5, 6) {
		refused("Head", func() (bool, api.Errno) { n, e := s.Head(node); return n == 0, e })
		refused("Lock", func() (bool, api.Errno) { w, e := s.Lock(node); return w == 0, e })
		refused("TakeLock", func() (bool, api.Errno) { done, e := s.TakeLock(node, 0, 1); return !done, e })
		refused("Push", func() (bool, api.Errno) { done, e := s.Push(node, 0, 5); return !done, e })
		refused("Push", func() (bool, api.Errno) { done, e := s.Push(node, 99, 99); return !done, e })
		refused("Drop", func() (bool, api.Errno) { return true, s.Drop(node) })
		changesNothing(t, "Chain", a, populatedSize, func() { hasChain(t, s, node) })
	}
	for _, version := range append(noneAnywhere(), 1, 4) {
		refused("Begin", func() (bool, api.Errno) { w, e := s.Begin(version); return w == 0, e })
		refused("End", func() (bool, api.Errno) { w, e := s.End(version); return w == 0, e })
		refused("Next", func() (bool, api.Errno) { n, e := s.Next(version); return n == 0, e })
		refused("Val", func() (bool, api.Errno) { val, e := s.Val(version); return val == "", e })
		refused("Cut", func() (bool, api.Errno) { n, e := s.Cut(version); return n == 0, e })
		for _, w := range []uint64{5, owners + 1, word.Never, 1<<40 + 1, most} {
			refused("SetBegin", func() (bool, api.Errno) { return true, s.SetBegin(version, w) })
			refused("SetEnd", func() (bool, api.Errno) { return true, s.SetEnd(version, w) })
			refused("TakeEnd", func() (bool, api.Errno) { done, e := s.TakeEnd(version, word.Never, w); return !done, e })
		}
	}
	for _, txn := range append(noneAnywhere(), 1, 4, 5) {
		refused("State", func() (bool, api.Errno) { w, e := s.State(txn); return w == 0, e })
		refused("Forget", func() (bool, api.Errno) { return true, s.Forget(txn) })
		for _, w := range []uint64{0, committed + 5, 5, most} {
			refused("SetState", func() (bool, api.Errno) { return true, s.SetState(txn, w) })
		}
	}
	hasChain(t, s, 1, 3, 2)
	hasChain(t, s, 2, 5)
}

// P11.2: old and now of Push that are none, whatever the head is; of 0 old alone may be.
func TestPushRefusesWhatIsNoVersion(t *testing.T) {
	s, a := populated(t)
	refused := func(node, old, now int) {
		t.Helper()
		changesNothing(t, "Push", a, populatedSize, func() {
			done, e := s.Push(node, old, now)
			is(t, "Push", done, e, false, api.ErrStoreNone)
		})
	}
	for _, node := range []int{1, 2, 3} {
		for _, none := range append(noneAnywhere(), 1, 4) {
			for _, is := range []int{0, 2, 3, 5, 6} {
				refused(node, is, none)
				if none != 0 {
					refused(node, none, max(is, 2))
				}
			}
			if none != 0 {
				refused(node, none, none)
			}
		}
	}
	hasChain(t, s, 1, 3, 2)
	hasChain(t, s, 2, 5)
	hasChain(t, s, 3)
}

// P11.2: old that is right, and that is not.
func TestPush(t *testing.T) {
	s, _ := populated(t)
	for _, old := range []int{2, 3, 5, 6} {
		pushes(t, s, 3, old, 6, false)
	}
	hasHead(t, s, 3, 0)
	pushes(t, s, 3, 0, 6, true)
	hasHead(t, s, 3, 6)
	hasChain(t, s, 3, 6, 5)
	for _, old := range []int{0, 2, 3, 5} {
		pushes(t, s, 3, old, 2, false)
		hasHead(t, s, 3, 6)
	}
	pushes(t, s, 3, 6, 6, true)
	hasHead(t, s, 3, 6)
	pushes(t, s, 3, 6, 2, true)
	hasHead(t, s, 3, 2)
	hasChain(t, s, 3, 2)
	hasChain(t, s, 1, 3, 2)
	hasChain(t, s, 2, 5)
	hasHead(t, s, 4, 0)
	hasNext(t, s, 6, 5)
}

// P11.2: of several Pushes from one head just the first is true.
func TestTheFirstPushIsTrue(t *testing.T) {
	s, _ := room(t, 60)
	makesNode(t, s, 1)
	makesVersion(t, s, "", 1, 0, 1)
	pushes(t, s, 1, 0, 1, true)
	for v := 2; v <= 5; v++ {
		makesVersion(t, s, "", uint64(v), 1, v)
	}
	pushes(t, s, 1, 1, 4, true)
	for _, v := range []int{2, 3, 4, 5} {
		pushes(t, s, 1, 1, v, false)
	}
	hasChain(t, s, 1, 4, 1)
}

// P11.2: TakeEnd with an old that is right, wrong, any number.
func TestTakeEnd(t *testing.T) {
	s, _ := populated(t)
	for _, version := range []int{2, 6} {
		for _, now := range append(begins(), word.Never) {
			before, _ := s.End(version)
			for _, old := range append(append(noWords(), begins()...), word.Never) {
				if old != before {
					done, e := s.TakeEnd(version, old, now)
					is(t, "TakeEnd", done, e, false, api.OK)
					hasEnd(t, s, version, before)
				}
			}
			done, e := s.TakeEnd(version, before, now)
			is(t, "TakeEnd", done, e, true, api.OK)
			hasEnd(t, s, version, now)
			done, e = s.TakeEnd(version, now, now)
			is(t, "TakeEnd", done, e, true, api.OK)
			hasEnd(t, s, version, now)
		}
	}
	hasEnd(t, s, 3, word.Never)
	hasEnd(t, s, 5, word.Never)
	hasBegin(t, s, 6, 8)
	hasNext(t, s, 6, 5)
}

// P11.2: a now that is no word is refused, whether old is right or not.
func TestTakeEndRefusesWhatIsNoWord(t *testing.T) {
	s, a := populated(t)
	for _, now := range noWords() {
		for _, old := range []uint64{word.Never, 0, 5, most, now} {
			changesNothing(t, "TakeEnd", a, populatedSize, func() {
				done, e := s.TakeEnd(2, old, now)
				is(t, "TakeEnd", done, e, false, api.ErrWordForm)
			})
		}
	}
	hasEnd(t, s, 2, word.Never)
}

// P11.2: lock words are any numbers.
func TestTakeLock(t *testing.T) {
	s, a := populated(t)
	numbers := append(append(noWords(), begins()...), word.Never, 2, 1<<33+1, 16<<32)
	var before uint64
	for _, now := range numbers {
		for _, old := range numbers {
			if old != before {
				done, e := s.TakeLock(2, old, now)
				is(t, "TakeLock", done, e, false, api.OK)
				hasLock(t, s, 2, before)
			}
		}
		done, e := s.TakeLock(2, before, now)
		is(t, "TakeLock", done, e, true, api.OK)
		hasLock(t, s, 2, now)
		before = now
	}
	for _, other := range []int{1, 3, 4} {
		hasLock(t, s, other, 0)
	}
	hasChain(t, s, 2, 5)
	uses(t, a, 22)
}

// P11.2: SetBegin lays timestamps and owners, SetEnd these and Never; what is no word is refused.
func TestSetBeginAndSetEnd(t *testing.T) {
	s, a := populated(t)
	for _, w := range begins() {
		code(t, "SetBegin", s.SetBegin(3, w), api.OK)
		hasBegin(t, s, 3, w)
		hasEnd(t, s, 3, word.Never)
	}
	for _, w := range append(noWords(), word.Never) {
		changesNothing(t, "SetBegin", a, populatedSize, func() { code(t, "SetBegin", s.SetBegin(3, w), api.ErrWordForm) })
	}
	last := begins()[len(begins())-1]
	hasBegin(t, s, 3, last)
	for _, w := range append(begins(), word.Never, 9) {
		code(t, "SetEnd", s.SetEnd(3, w), api.OK)
		hasEnd(t, s, 3, w)
		hasBegin(t, s, 3, last)
	}
	for _, w := range noWords() {
		changesNothing(t, "SetEnd", a, populatedSize, func() { code(t, "SetEnd", s.SetEnd(3, w), api.ErrWordForm) })
	}
	hasEnd(t, s, 3, 9)
	hasNext(t, s, 3, 2)
	hasBegin(t, s, 2, 1)
	hasEnd(t, s, 2, word.Never)
}

// P11.2: SetState lays state words, of whatever state behind whatever other.
func TestSetState(t *testing.T) {
	s, a := populated(t)
	for _, w := range []uint64{0, preparing, preparing + 1, preparing + 1<<40 - 1, committed, committed + 7, 0, committed + 1<<40 - 1, aborted, preparing + 5, 0, aborted} {
		code(t, "SetState", s.SetState(3, w), api.OK)
		hasState(t, s, 3, w)
		hasState(t, s, 2, 0)
	}
	for _, w := range []uint64{1, 5, 1<<40 - 1, 1 << 40, 1<<62 - 1, preparing + 1<<40, preparing + 1<<41, committed + 1<<40, committed + 1<<62 - 1, aborted + 1, aborted + 1<<40, most} {
		changesNothing(t, "SetState", a, populatedSize, func() { code(t, "SetState", s.SetState(3, w), api.ErrWordForm) })
	}
	hasState(t, s, 3, aborted)
}

// P11.2: each of these is one step, a Load that changes nothing, or a Store or a CAS that changes just one cell; Val touches none.
func TestOneStepEach(t *testing.T) {
	s, a := populated(t)
	for _, c := range []struct {
		name           string
		steps, changes int
		do             func()
	}{
		{"Head", 1, 0, func() { s.Head(1) }},
		{"Head of an empty chain", 1, 0, func() { s.Head(3) }},
		{"Begin", 1, 0, func() { s.Begin(2) }},
		{"End", 1, 0, func() { s.End(2) }},
		{"Next", 1, 0, func() { s.Next(3) }},
		{"Next of the last", 1, 0, func() { s.Next(2) }},
		{"State", 1, 0, func() { s.State(2) }},
		{"Lock", 1, 0, func() { s.Lock(1) }},
		{"Val", 0, 0, func() { s.Val(5) }},
		{"SetBegin", 1, 1, func() { s.SetBegin(2, 100) }},
		{"SetBegin again", 1, 0, func() { s.SetBegin(2, 100) }},
		{"SetBegin of 0", 1, 1, func() { s.SetBegin(2, 0) }},
		{"SetEnd", 1, 1, func() { s.SetEnd(2, 101) }},
		{"SetEnd again", 1, 0, func() { s.SetEnd(2, 101) }},
		{"SetState", 1, 1, func() { s.SetState(2, aborted) }},
		{"SetState again", 1, 0, func() { s.SetState(2, aborted) }},
		{"SetState of 0", 1, 1, func() { s.SetState(2, 0) }},
		{"Push from a wrong head", 1, 0, func() { s.Push(3, 6, 6) }},
		{"Push", 1, 1, func() { s.Push(3, 0, 6) }},
		{"Push of the head", 1, 0, func() { s.Push(3, 6, 6) }},
		{"TakeEnd from a wrong end", 1, 0, func() { s.TakeEnd(5, 3, 4) }},
		{"TakeEnd", 1, 1, func() { s.TakeEnd(5, word.Never, 4) }},
		{"TakeEnd of the end", 1, 0, func() { s.TakeEnd(5, 4, 4) }},
		{"TakeLock from a wrong word", 1, 0, func() { s.TakeLock(2, 3, 4) }},
		{"TakeLock", 1, 1, func() { s.TakeLock(2, 0, 4) }},
		{"TakeLock of the word", 1, 0, func() { s.TakeLock(2, 4, 4) }},
	} {
		steps, others := costs(a, populatedSize, c.do)
		if steps != c.steps || others != c.changes {
			t.Errorf("%s: %d steps, %d cells changed; not %d, %d", c.name, steps, others, c.steps, c.changes)
		}
		uses(t, a, 22)
	}
	hasChain(t, s, 3, 6, 5)
	hasBegin(t, s, 2, 0)
	hasEnd(t, s, 2, 101)
	hasState(t, s, 2, 0)
	hasEnd(t, s, 5, 4)
	hasLock(t, s, 2, 4)
}

// P11.2: the cells are the arena's, so that what stands there is what is answered.
func TestWordsStandInTheArena(t *testing.T) {
	const size = 20
	s, a := room(t, size)
	grown(t, s, 2)
	makesTxn(t, s, 1)
	marks := []uint64{owners + 11, 12, committed + 13, 1 << 50}
	code(t, "SetBegin", s.SetBegin(2, marks[0]), api.OK)
	code(t, "SetEnd", s.SetEnd(2, marks[1]), api.OK)
	code(t, "SetState", s.SetState(1, marks[2]), api.OK)
	done, e := s.TakeLock(1, 0, marks[3])
	is(t, "TakeLock", done, e, true, api.OK)
	told := []func() (uint64, api.Errno){
		func() (uint64, api.Errno) { return s.Begin(2) },
		func() (uint64, api.Errno) { return s.End(2) },
		func() (uint64, api.Errno) { return s.State(1) },
		func() (uint64, api.Errno) { return s.Lock(1) },
	}
	for i, mark := range marks {
		at := -1
		for j, c := range shown(a, size) {
			if c == (cell{mark, api.OK}) {
				at = j
			}
		}
		if at < 0 {
			t.Fatalf("%x stands in no cell", mark)
		}
		a.Store(at, 77)
		w, e := told[i]()
		is(t, "what another one has laid", w, e, 77, api.OK)
	}
}

// P11.3: of the newest, one in the middle, the last one; how many go.
func TestCut(t *testing.T) {
	const versions = 6
	for kept := 1; kept <= versions; kept++ {
		s, a := room(t, 100)
		other, ones := grown(t, s, 3)
		node, chain := grown(t, s, versions)
		before := a.Used()
		last := chain[kept-1]
		cuts(t, s, last, versions-kept)
		uses(t, a, before-3*(versions-kept))
		hasChain(t, s, node, chain[:kept]...)
		hasHead(t, s, node, chain[0])
		hasNext(t, s, last, 0)
		noVersion(t, s, chain[kept:]...)
		for _, v := range chain[:kept] {
			hasBegin(t, s, v, uint64(v-4))
			hasEnd(t, s, v, word.Never)
			hasVal(t, s, v, strings.Repeat("v", v-4))
		}
		hasChain(t, s, other, ones...)
		cuts(t, s, last, 0)
		hasChain(t, s, node, chain[:kept]...)
		uses(t, a, before-3*(versions-kept))
	}
}

// P11.3: of a version that is in no node's chain, too.
func TestCutOfWhatIsInNoNode(t *testing.T) {
	s, a := room(t, 20)
	makesVersion(t, s, "a", 1, 0, 1)
	makesVersion(t, s, "b", 2, 1, 2)
	makesVersion(t, s, "c", 3, 2, 3)
	cuts(t, s, 3, 2)
	hasNext(t, s, 3, 0)
	hasVal(t, s, 3, "c")
	noVersion(t, s, 1, 2)
	uses(t, a, 3)
}

// P11.3, Words: a chain ends at what is no version; Cut goes no farther, and tells only what went by it.
func TestCutOfAChainThatEndsAtWhatIsNone(t *testing.T) {
	s, a := room(t, 40)
	grown(t, s, 2)
	makesVersion(t, s, "", 3, 2, 3)
	makesVersion(t, s, "", 4, 2, 4)
	makesVersion(t, s, "", 5, 4, 5)
	makesNode(t, s, 2)
	pushes(t, s, 2, 0, 5, true)
	hasChain(t, s, 2, 5, 4, 2, 1)
	cuts(t, s, 3, 2)
	uses(t, a, 2*2+3*3)
	hasNext(t, s, 4, 2)
	hasChain(t, s, 2, 5, 4)
	hasHead(t, s, 1, 2)
	hasChain(t, s, 1)
	cuts(t, s, 5, 1)
	noVersion(t, s, 4)
	hasNext(t, s, 5, 0)
	makesVersion(t, s, "", 6, 5, 6)
	makesVersion(t, s, "", 6, 5, 7)
	cuts(t, s, 6, 1)
	hasNext(t, s, 7, 5)
	cuts(t, s, 7, 0)
	hasNext(t, s, 7, 0)
}

// P11.3: down to an empty chain, and once more.
func TestDrop(t *testing.T) {
	s, a := room(t, 100)
	other, ones := grown(t, s, 2)
	node, chain := grown(t, s, 4)
	for i, v := range chain {
		before := a.Used()
		code(t, "Drop", s.Drop(node), api.OK)
		uses(t, a, before-3)
		hasChain(t, s, node, chain[i+1:]...)
		noVersion(t, s, chain[:i+1]...)
		if i+1 < len(chain) {
			hasHead(t, s, node, v-1)
			hasBegin(t, s, v-1, uint64(v-4))
		}
	}
	hasHead(t, s, node, 0)
	for range 2 {
		before := shown(a, 100)
		code(t, "Drop of an empty chain", s.Drop(node), api.ErrStoreNone)
		if changed(before, shown(a, 100)) != 0 {
			t.Error("Drop of an empty chain has changed something")
		}
		hasHead(t, s, node, 0)
	}
	hasChain(t, s, other, ones...)
	makesVersion(t, s, "", 5, 0, 7)
	pushes(t, s, node, 0, 7, true)
	hasChain(t, s, node, 7)
	hasLock(t, s, node, 0)
}

// P11.3: a head that names what was taken away, by another node's call, names no version.
func TestDropOfAHeadThatNamesNone(t *testing.T) {
	s, a := room(t, 40)
	makesNode(t, s, 1)
	makesNode(t, s, 2)
	makesVersion(t, s, "", 1, 0, 1)
	makesVersion(t, s, "", 2, 1, 2)
	pushes(t, s, 1, 0, 2, true)
	pushes(t, s, 2, 0, 1, true)
	cuts(t, s, 2, 1)
	uses(t, a, 7)
	hasHead(t, s, 2, 1)
	hasChain(t, s, 2)
	before := shown(a, 40)
	code(t, "Drop", s.Drop(2), api.ErrStoreNone)
	done, e := s.Push(2, 1, 2)
	is(t, "Push from what was taken away", done, e, false, api.ErrStoreNone)
	if changed(before, shown(a, 40)) != 0 {
		t.Error("what was refused has changed something")
	}
	hasHead(t, s, 2, 1)
	hasChain(t, s, 1, 2)
	makesVersion(t, s, "", 3, 0, 3)
	hasHead(t, s, 2, 1)
	pushes(t, s, 2, 0, 3, false)
}

// P11.3: the head becomes what its version's next was, though that is none any more.
func TestDropDownToWhatIsNone(t *testing.T) {
	s, a := room(t, 40)
	grown(t, s, 2)
	makesVersion(t, s, "", 3, 1, 3)
	makesNode(t, s, 2)
	pushes(t, s, 2, 0, 3, true)
	cuts(t, s, 2, 1)
	hasChain(t, s, 2, 3)
	code(t, "Drop", s.Drop(2), api.OK)
	hasHead(t, s, 2, 1)
	hasChain(t, s, 2)
	code(t, "Drop", s.Drop(2), api.ErrStoreNone)
	hasChain(t, s, 1, 2)
	uses(t, a, 2*2+3)
}

// P11.3: what is forgotten is no more, in whichever state; the others stay.
func TestForget(t *testing.T) {
	s, a := room(t, 20)
	states := []uint64{0, preparing + 5, committed + 6, aborted, 0}
	for i, w := range states {
		makesTxn(t, s, i+1)
		code(t, "SetState", s.SetState(i+1, w), api.OK)
	}
	for _, txn := range []int{3, 1, 5, 2, 4} {
		before := a.Used()
		code(t, "Forget", s.Forget(txn), api.OK)
		uses(t, a, before-1)
		states[txn-1] = most
		for i, w := range states {
			if w != most {
				hasState(t, s, i+1, w)
				continue
			}
			got, e := s.State(i + 1)
			is(t, "State", got, e, 0, api.ErrStoreNone)
			code(t, "SetState", s.SetState(i+1, 0), api.ErrStoreNone)
			code(t, "Forget", s.Forget(i+1), api.ErrStoreNone)
		}
	}
	makesTxn(t, s, 6)
	hasState(t, s, 6, 0)
}

// P11.4: a chain is what the head names, and what that one's next names: not all that was ever pushed.
func TestChain(t *testing.T) {
	const size = 100
	s, a := room(t, size)
	node, _ := grown(t, s, 3)
	makesVersion(t, s, "", 5, 1, 4)
	before := shown(a, size)
	for range 2 {
		hasChain(t, s, node, 3, 2, 1)
		hasChain(t, s, node+1)
	}
	if changed(before, shown(a, size)) != 0 || a.Used() != 2+4*3 {
		t.Error("Chain has changed something")
	}
	pushes(t, s, node, 3, 4, true)
	hasChain(t, s, node, 4, 1)
	hasVal(t, s, 3, "vv")
	pushes(t, s, node, 4, 2, true)
	hasChain(t, s, node, 2, 1)
	code(t, "Drop", s.Drop(node), api.OK)
	hasChain(t, s, node, 1)
	code(t, "Drop", s.Drop(node), api.OK)
	hasChain(t, s, node)
	hasNext(t, s, 3, 2)
	hasNext(t, s, 4, 1)
}

// P11.3, P11.4: a chain as long as an arena has room for.
func TestALongChain(t *testing.T) {
	const versions = (api.MaxCells - 2) / 3
	s, a := room(t, api.MaxCells)
	makesNode(t, s, 1)
	want := make([]int, versions)
	for v := 1; v <= versions; v++ {
		if n, e := s.Version("v", uint64(v), v-1); n != v || e != api.OK {
			t.Fatalf("Version: %d, %v, not %d", n, e, v)
		}
		pushes(t, s, 1, v-1, v, true)
		want[versions-v] = v
	}
	refusesVersion(t, s, "v", 5, 0, api.ErrCellsFull)
	hasChain(t, s, 1, want...)
	cuts(t, s, versions-1, versions-2)
	hasChain(t, s, 1, versions, versions-1)
	uses(t, a, 2+2*3)
	makesVersion(t, s, "v", 5, versions, versions+1)
}

// P11.4: all of a nil store, and of one that New did not make.
func TestNilStore(t *testing.T) {
	for _, s := range []*store.Store{nil, {}} {
		for _, n := range []int{math.MinInt, -1, 0, 1, 2, math.MaxInt} {
			got, e := s.Node()
			is(t, "Node", got, e, 0, api.ErrNil)
			for _, val := range []string{"v", strings.Repeat("v", 65)} {
				got, e = s.Version(val, uint64(n), n)
				is(t, "Version", got, e, 0, api.ErrNil)
			}
			got, e = s.Txn()
			is(t, "Txn", got, e, 0, api.ErrNil)
			got, e = s.Head(n)
			is(t, "Head", got, e, 0, api.ErrNil)
			got, e = s.Next(n)
			is(t, "Next", got, e, 0, api.ErrNil)
			got, e = s.Cut(n)
			is(t, "Cut", got, e, 0, api.ErrNil)
			done, e := s.Push(n, n, n)
			is(t, "Push", done, e, false, api.ErrNil)
			done, e = s.TakeEnd(n, 0, most)
			is(t, "TakeEnd", done, e, false, api.ErrNil)
			done, e = s.TakeLock(n, 0, 0)
			is(t, "TakeLock", done, e, false, api.ErrNil)
			w, e := s.Begin(n)
			is(t, "Begin", w, e, 0, api.ErrNil)
			w, e = s.End(n)
			is(t, "End", w, e, 0, api.ErrNil)
			w, e = s.State(n)
			is(t, "State", w, e, 0, api.ErrNil)
			w, e = s.Lock(n)
			is(t, "Lock", w, e, 0, api.ErrNil)
			val, e := s.Val(n)
			is(t, "Val", val, e, "", api.ErrNil)
			code(t, "SetBegin", s.SetBegin(n, most), api.ErrNil)
			code(t, "SetEnd", s.SetEnd(n, most), api.ErrNil)
			code(t, "SetState", s.SetState(n, most), api.ErrNil)
			code(t, "Forget", s.Forget(n), api.ErrNil)
			code(t, "Drop", s.Drop(n), api.ErrNil)
			hasChain(t, s, n)
		}
	}
}

// P11.6: Used behind each call.
func TestUsed(t *testing.T) {
	s, a := room(t, 100)
	used := 0
	for _, c := range []struct {
		name string
		by   int
		do   func()
	}{
		{"Node", 2, func() { s.Node() }},
		{"Version", 3, func() { s.Version("a", 1, 0) }},
		{"Push", 0, func() { s.Push(1, 0, 1) }},
		{"Version", 3, func() { s.Version("b", 2, 1) }},
		{"Push", 0, func() { s.Push(1, 1, 2) }},
		{"Version", 3, func() { s.Version("c", 3, 2) }},
		{"Push", 0, func() { s.Push(1, 2, 3) }},
		{"Push that is false", 0, func() { s.Push(1, 2, 3) }},
		{"Txn", 1, func() { s.Txn() }},
		{"Txn", 1, func() { s.Txn() }},
		{"SetState", 0, func() { s.SetState(1, aborted) }},
		{"SetBegin", 0, func() { s.SetBegin(1, owners+1) }},
		{"SetEnd", 0, func() { s.SetEnd(1, owners+1) }},
		{"TakeEnd", 0, func() { s.TakeEnd(2, word.Never, 5) }},
		{"TakeLock", 0, func() { s.TakeLock(1, 0, 5) }},
		{"Version that is refused", 0, func() { s.Version("c", 3, 9) }},
		{"Chain", 0, func() { s.Chain(1) }},
		{"Val", 0, func() { s.Val(1) }},
		{"Forget", -1, func() { s.Forget(1) }},
		{"Forget again", 0, func() { s.Forget(1) }},
		{"Cut", -3, func() { s.Cut(2) }},
		{"Cut again", 0, func() { s.Cut(2) }},
		{"Drop", -3, func() { s.Drop(1) }},
		{"Drop", -3, func() { s.Drop(1) }},
		{"Drop of an empty chain", 0, func() { s.Drop(1) }},
		{"Node", 2, func() { s.Node() }},
		{"Forget", -1, func() { s.Forget(2) }},
	} {
		c.do()
		used += c.by
		if a.Used() != used {
			t.Fatalf("behind %s: used: %d, not %d", c.name, a.Used(), used)
		}
	}
	uses(t, a, 4)
}

// P11.5: what is done to one node's chain leaves another one's as it is.
func TestChainsAreApart(t *testing.T) {
	s, _ := room(t, 200)
	one, ones := grown(t, s, 3)
	two, twos := grown(t, s, 3)
	three, threes := grown(t, s, 3)
	type kept struct {
		begin, end, lock uint64
		val              string
	}
	look := func(node int, chain []int) []kept {
		t.Helper()
		hasChain(t, s, node, chain...)
		var all []kept
		for _, v := range chain {
			var k kept
			k.begin, _ = s.Begin(v)
			k.end, _ = s.End(v)
			k.val, _ = s.Val(v)
			k.lock, _ = s.Lock(node)
			all = append(all, k)
		}
		return all
	}
	before := append(look(one, ones), look(three, threes)...)
	s.TakeLock(two, 0, 9)
	s.SetBegin(twos[0], 50)
	s.SetEnd(twos[1], 51)
	s.TakeEnd(twos[2], word.Never, owners+9)
	v, e := s.Version("new", 52, twos[0])
	is(t, "Version", v, e, 10, api.OK)
	pushes(t, s, two, twos[0], v, true)
	cuts(t, s, twos[0], 2)
	code(t, "Drop", s.Drop(two), api.OK)
	code(t, "Drop", s.Drop(two), api.OK)
	code(t, "Drop", s.Drop(two), api.ErrStoreNone)
	grown(t, s, 5)
	if !slices.Equal(before, append(look(one, ones), look(three, threes)...)) {
		t.Error("another node's chain has changed")
	}
}

// R3: what is handed in is not kept, and what is answered is new memory.
func TestMemoryIsNotShared(t *testing.T) {
	s, _ := room(t, 100)
	b := []byte("value, more")
	handed := unsafe.String(&b[0], 5)
	makesNode(t, s, 1)
	makesVersion(t, s, handed, 5, 0, 1)
	copy(b, "xxxxx")
	hasVal(t, s, 1, "value")
	copy(b, "v")
	makesVersion(t, s, handed[:1], 5, 1, 2)
	copy(b, "xx")
	hasVal(t, s, 2, "v")
	if string(b) != "xxxxx, more" {
		t.Errorf("what was handed in became %q", b)
	}
	for v := 1; v <= 2; v++ {
		one, _ := s.Val(v)
		two, _ := s.Val(v)
		if unsafe.StringData(one) == unsafe.StringData(two) {
			t.Error("two answers share memory")
		}
		*unsafe.StringData(one) = 'z'
		hasVal(t, s, v, two)
	}
	pushes(t, s, 1, 0, 2, true)
	chain := s.Chain(1)
	for i := range chain {
		chain[i] = 99
	}
	_ = append(chain[:0], 98, 98, 98, 98)
	hasChain(t, s, 1, 2, 1)
	other := s.Chain(1)
	other[0] = 7
	hasChain(t, s, 1, 2, 1)
}

// R1: every call ends, though somebody else has laid a ring into the arena's cells, or numbers that are none, or has freed them.
func TestCellsThatOthersHaveWrittenInto(t *testing.T) {
	const size = 12
	for at := range 11 {
		for _, lay := range []uint64{0, 1, 2, 3, 4, 1 << 40, owners + 2, most, most - 1} {
			for _, free := range []bool{false, true} {
				s, a := room(t, size)
				grown(t, s, 3)
				a.Store(at, lay)
				if free {
					a.Free(at)
				}
				if chain := s.Chain(1); len(chain) > 3 {
					t.Fatalf("%d laid into cell %d: a chain of %d", lay, at, len(chain))
				}
				for v := range 5 {
					s.Begin(v)
					s.End(v)
					s.Next(v)
					s.Val(v)
					s.SetBegin(v, 1)
					s.TakeEnd(v, 1, 2)
					s.Push(1, 0, v)
				}
				s.Lock(1)
				s.TakeLock(1, 0, 1)
				s.Cut(2)
				s.Cut(3)
				s.Drop(1)
				s.Drop(1)
				s.Version("", 1, 3)
				s.Node()
				s.Txn()
				s.Chain(1)
			}
		}
	}
}
