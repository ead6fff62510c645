package skip_test

import (
	"fmt"
	"math"
	"slices"
	"strconv"
	"strings"
	"testing"
	"unsafe"

	"varve/api"
	"varve/cells"
	"varve/skip"
)

// heads is how many cells a list takes itself.
const heads = 8

// answer is what Ref tells.
type answer struct {
	key  string
	ref  int
	had  bool
	code api.Errno
}

var notDone = answer{code: api.ErrArg}

// String quotes the key, as it may have any bytes.
func (a answer) String() string {
	return fmt.Sprintf("{%q %d %t %d}", a.key, a.ref, a.had, int(a.code))
}

func arena(t *testing.T, size int) *cells.Arena {
	t.Helper()
	a, e := cells.New(size)
	if e != api.OK {
		t.Fatalf("cells.New(%d): %v", size, e)
	}
	return a
}

func list(t *testing.T, a *cells.Arena) *skip.List {
	t.Helper()
	l, e := skip.New(a)
	if l == nil || e != api.OK {
		t.Fatalf("New: %v, %v", l, e)
	}
	return l
}

// room is a list, and its arena, in which so many cells are free.
func room(t *testing.T, free int) (*skip.List, *cells.Arena) {
	t.Helper()
	a := arena(t, heads+free)
	return list(t, a), a
}

func told(o *skip.Op) answer {
	key, ref, had, e := o.Ref()
	return answer{key, ref, had, e}
}

// run steps an operation until it is done: what it tells, and how many steps that took.
func run(t *testing.T, o *skip.Op) (answer, int) {
	t.Helper()
	for steps := 1; steps < 100000; steps++ {
		if o.Step() {
			return told(o), steps
		}
		if got := told(o); got != notDone {
			t.Fatalf("Ref of what is not done: %v", got)
		}
	}
	t.Fatal("it is never done")
	return answer{}, 0
}

func answers(t *testing.T, what string, o *skip.Op, key string, ref int, had bool, code api.Errno) {
	t.Helper()
	if o == nil {
		t.Fatalf("%s: no operation", what)
	}
	if got, _ := run(t, o); got != (answer{key, ref, had, code}) {
		t.Errorf("%s: %v, not %v", what, got, answer{key, ref, had, code})
	}
}

func finds(t *testing.T, what string, o *skip.Op, key string, ref int) {
	t.Helper()
	answers(t, what, o, key, ref, true, api.OK)
}

func findsNone(t *testing.T, what string, o *skip.Op) {
	t.Helper()
	answers(t, what, o, "", 0, false, api.OK)
}

func refuses(t *testing.T, what string, o *skip.Op, code api.Errno) {
	t.Helper()
	answers(t, what, o, "", 0, false, code)
}

func inserts(t *testing.T, l *skip.List, key string, ref, height int) {
	t.Helper()
	answers(t, "Insert of "+strconv.Quote(key), l.Insert(key, ref, height), key, ref, false, api.OK)
}

func hasKeys(t *testing.T, l *skip.List, want ...string) {
	t.Helper()
	if got := l.Keys(); !slices.Equal(got, want) {
		t.Errorf("Keys: %q, not %q", got, want)
	}
}

func uses(t *testing.T, a *cells.Arena, want int) {
	t.Helper()
	if a.Used() != want {
		t.Errorf("used: %d, not %d", a.Used(), want)
	}
}

// cell is all that can be told of one.
type cell struct {
	number uint64
	code   api.Errno
}

// shown is all cells of an arena of that size. (It takes steps of the arena, and changes nothing else.)
func shown(a *cells.Arena, size int) []cell {
	all := make([]cell, size)
	for i := range all {
		all[i].number, all[i].code = a.Load(i)
	}
	return all
}

// changed is how many cells are other than they were, taken, free, or with another number.
func changed(before, after []cell) int {
	n := 0
	for i := range before {
		if before[i] != after[i] {
			n++
		}
	}
	return n
}

func TestExamples(t *testing.T) {
	l, a := room(t, 12)
	findsNone(t, "Lookup of b", l.Lookup("b"))
	inserts(t, l, "b", 7, 3)
	finds(t, "Insert of b again", l.Insert("b", 8, 1), "b", 7)
	finds(t, "Lookup of b", l.Lookup("b"), "b", 7)
	inserts(t, l, "a", 1, 0)
	inserts(t, l, "c", 3, 99)
	uses(t, a, 20)
	finds(t, "Next of nothing", l.Next(""), "a", 1)
	finds(t, "Next of a and a byte 0", l.Next("a\x00"), "b", 7)
	finds(t, "Next of c", l.Next("c"), "c", 3)
	findsNone(t, "Next of d", l.Next("d"))
	finds(t, "Next of 20 times b", l.Next(strings.Repeat("b", 20)), "c", 3)
	refuses(t, "Insert of d", l.Insert("d", 4, 1), api.ErrCellsFull)
	refuses(t, "Insert of nothing", l.Insert("", 1, 1), api.ErrSkipKey)
	hasKeys(t, l, "a", "b", "c")
}

// P10.1: a list takes eight cells, of an arena with just so many free ones, or more.
func TestNewTakesEightCells(t *testing.T) {
	for _, more := range []int{0, 1, 100} {
		l, a := room(t, more)
		uses(t, a, heads)
		hasKeys(t, l)
		if a.Steps() != 0 {
			t.Errorf("New took %d steps", a.Steps())
		}
		findsNone(t, "Lookup in a new list", l.Lookup("a"))
		findsNone(t, "Next in a new list", l.Next(""))
	}
}

// P10.1: an arena without eight free cells is left as it was, wherever its free ones stand.
func TestNewTakesAllOrNone(t *testing.T) {
	const size = 100
	for free := range heads {
		for apart := 1; apart < 14; apart++ {
			a := arena(t, size)
			for i := range size {
				a.Alloc()
				a.Store(i, uint64(i)+1000)
			}
			for i := range free {
				a.Free(i*apart + 1)
			}
			before, steps := shown(a, size), a.Steps()
			if l, e := skip.New(a); l != nil || e != api.ErrCellsFull {
				t.Errorf("New with %d free cells: %v, %v", free, l, e)
			}
			uses(t, a, size-free)
			if a.Steps() != steps || changed(before, shown(a, size)) != 0 {
				t.Errorf("New with %d free cells has left something", free)
			}
			for i := range heads - free {
				a.Free(size - 1 - i)
			}
			l := list(t, a)
			uses(t, a, size)
			findsNone(t, "Lookup", l.Lookup("a"))
		}
	}
	small := arena(t, 7)
	if l, e := skip.New(small); l != nil || e != api.ErrCellsFull || small.Used() != 0 {
		t.Errorf("New of an arena of seven: %v, %v, %d used", l, e, small.Used())
	}
}

// P10.1: no arena.
func TestNewOfNil(t *testing.T) {
	if l, e := skip.New(nil); l != nil || e != api.ErrNil {
		t.Errorf("New of nil: %v, %v", l, e)
	}
}

// P10.1: lists of one arena, and other cells of it, are apart.
func TestListsOfOneArena(t *testing.T) {
	a := arena(t, 100)
	mine := make([]int, 3)
	lists := make([]*skip.List, 3)
	for i := range lists {
		mine[i], _ = a.Alloc()
		a.Store(mine[i], math.MaxUint64-uint64(i))
		lists[i] = list(t, a)
	}
	for k := range 5 {
		for i, l := range lists {
			inserts(t, l, "key"+strconv.Itoa(k*(i+1)), 10*i+k, i+2)
		}
	}
	for i, l := range lists {
		for k := range 5 {
			key := "key" + strconv.Itoa(k*(i+1))
			finds(t, "Lookup", l.Lookup(key), key, 10*i+k)
		}
		if len(l.Keys()) != 5 {
			t.Errorf("list %d: %q", i, l.Keys())
		}
		if n, e := a.Load(mine[i]); n != math.MaxUint64-uint64(i) || e != api.OK {
			t.Errorf("a cell that is none of the lists': %d, %v", n, e)
		}
	}
	findsNone(t, "Lookup in another list", lists[0].Lookup("key8"))
	uses(t, a, 3+3*heads+5*2+5*3+5*4)
}

// P10.1: whichever cells are free, the first one too, may become a list's and towers', and have had other numbers.
func TestAnyCellMayBeATowers(t *testing.T) {
	const size = 31
	for from := range size {
		for _, apart := range []int{1, 2, 11, 30} {
			a := arena(t, size)
			for i := range size {
				a.Alloc()
				a.Store(i, uint64(i))
			}
			at := 0
			free := func(n int) {
				for range n {
					a.Free((from + apart*at) % size)
					at++
				}
			}
			free(heads)
			l := list(t, a)
			for i, key := range []string{"m", "c", "x"} {
				free(i*3 + 1)
				inserts(t, l, key, i, i*3+1)
			}
			for i, key := range []string{"m", "c", "x"} {
				finds(t, "Lookup", l.Lookup(key), key, i)
				finds(t, "Insert again", l.Insert(key, 99, 8), key, i)
			}
			finds(t, "Next", l.Next("d"), "m", 0)
			uses(t, a, size)
		}
	}
}

// P10.2, P10.5: which heights a tower may have, and how many cells it takes.
func TestHeights(t *testing.T) {
	for _, test := range []struct{ height, cells int }{
		{math.MinInt, 1}, {-8, 1}, {-1, 1}, {0, 1}, {1, 1}, {2, 2}, {3, 3}, {4, 4}, {5, 5}, {6, 6}, {7, 7}, {8, 8}, {9, 8}, {16, 8}, {99, 8}, {256, 8}, {257, 8}, {1<<32 + 1, 8}, {math.MaxInt, 8},
	} {
		for free := range 18 {
			l, a := room(t, free)
			for i, key := range []string{"k", "b", "x"} {
				o := l.Insert(key, i, test.height)
				if test.cells*(i+1) > free {
					refuses(t, "Insert without enough cells", o, api.ErrCellsFull)
					uses(t, a, heads+test.cells*i)
					break
				}
				answers(t, "Insert", o, key, i, false, api.OK)
				uses(t, a, heads+test.cells*(i+1))
				finds(t, "Lookup", l.Lookup(key), key, i)
			}
		}
	}
}

// P10.2, P10.4: what is not stepped has done nothing, and is not done.
func TestNothingIsDoneAheadOfTheFirstStep(t *testing.T) {
	l, a := room(t, 5)
	inserts(t, l, "b", 7, 2)
	before, steps := shown(a, heads+5), a.Steps()
	var ops []*skip.Op
	for _, key := range []string{"a", "b", "c", "", strings.Repeat("k", 17)} {
		for i := range 10 {
			ops = append(ops, l.Insert(key, 8, i), l.Lookup(key), l.Next(key))
		}
	}
	for range 2 {
		for _, o := range ops {
			if got := told(o); got != notDone {
				t.Errorf("Ref ahead of the first step: %v", got)
			}
		}
	}
	uses(t, a, heads+2)
	hasKeys(t, l, "b")
	if a.Steps() != steps || changed(before, shown(a, heads+5)) != 0 {
		t.Error("something was done")
	}
	findsNone(t, "Lookup of a", l.Lookup("a"))
	inserts(t, l, "a", 9, 1)
	inserts(t, l, "c", 10, 2)
}

// P10.4: an operation tells what is there when it is stepped, not when it was begun.
func TestDoneBetweenFirstAndLastStep(t *testing.T) {
	for height := 1; height <= 8; height++ {
		l, _ := room(t, 50)
		lookup, insert, next := l.Lookup("b"), l.Insert("b", 2, height), l.Next("aa")
		for _, key := range []string{"a", "b", "c"} {
			inserts(t, l, key, 1, 9-height)
		}
		finds(t, "Lookup of b", lookup, "b", 1)
		finds(t, "Insert of b", insert, "b", 1)
		finds(t, "Next of aa", next, "b", 1)
	}
}

// P10.2: keys' lengths, and which bytes they have.
func TestKeysThatMayBe(t *testing.T) {
	may := []string{"a", "\x00", "\xff", "ab", "\x00\x00", "aa", "a\x00", "a\x00\x00", strings.Repeat("k", 15), strings.Repeat("k", 16), strings.Repeat("k", 15) + "\x00", strings.Repeat("\x00", 15), strings.Repeat("\x00", 16), strings.Repeat("\xff", 15), strings.Repeat("\xff", 16), "é", "a b\n", "\x10", "\x0f"}
	for turn := range len(may) {
		l, a := room(t, 200)
		used := heads
		for i := range may {
			key := may[(i+turn)%len(may)]
			findsNone(t, "Lookup", l.Lookup(key))
			inserts(t, l, key, i, i%8+1)
			used += i%8 + 1
		}
		for i := range may {
			key := may[(i+turn)%len(may)]
			finds(t, "Lookup", l.Lookup(key), key, i)
			finds(t, "Insert", l.Insert(key, 99, 1), key, i)
			finds(t, "Next", l.Next(key), key, i)
		}
		uses(t, a, used)
		sorted := slices.Clone(may)
		slices.Sort(sorted)
		hasKeys(t, l, sorted...)
	}
}

// P10.2: what is no key is told with the first step, whether cells are free or not, and touches none.
func TestKeysThatMayNotBe(t *testing.T) {
	for _, free := range []int{1, 2, 10} {
		l, a := room(t, free)
		inserts(t, l, "a", 7, 1)
		before := shown(a, heads+free)
		for _, key := range []string{"", strings.Repeat("k", 17), "a" + strings.Repeat("\x00", 16), strings.Repeat("a", 18), strings.Repeat("\x00", 17), strings.Repeat("k", 256), "a" + strings.Repeat("\x00", 256), strings.Repeat("k", 272), strings.Repeat("k", 1<<16+1)} {
			for _, o := range []*skip.Op{l.Insert(key, 5, 1), l.Insert(key, 5, 9), l.Insert(key, 5, -1), l.Lookup(key)} {
				steps := a.Steps()
				if !o.Step() || told(o) != (answer{code: api.ErrSkipKey}) {
					t.Errorf("a key of %d bytes: %v", len(key), told(o))
				}
				if !o.Step() || told(o) != (answer{code: api.ErrSkipKey}) || a.Steps() != steps {
					t.Errorf("a key of %d bytes, stepped again: %v, %d steps", len(key), told(o), a.Steps()-steps)
				}
			}
		}
		uses(t, a, heads+1)
		hasKeys(t, l, "a")
		if changed(before, shown(a, heads+free)) != 0 {
			t.Error("cells were touched")
		}
	}
}

// P10.2, P10.3: any text may be looked for by Next.
func TestNextOfAnyText(t *testing.T) {
	l, _ := room(t, 100)
	k15, k16, f16 := strings.Repeat("k", 15), strings.Repeat("k", 16), strings.Repeat("\xff", 16)
	keys := []string{"\x00", "\x00\x00", "a", "a\x00", "b", k15, k15 + "\x00", k16, "x" + strings.Repeat("\x00", 15), "\xff", f16}
	texts := append(slices.Clone(keys), "", "\x00\x00\x00", "\x00a", "aa", "ab", "a\x00\x00", k15+"a", k15+"z", k16+"\x00", k16+"k", k16+"\xff", strings.Repeat("k", 256), strings.Repeat("k", 272), "x", "x"+strings.Repeat("\x00", 14), "x"+strings.Repeat("\x00", 16), "x"+strings.Repeat("\x00", 300), "\xfe\xff", "\xff\x00", f16+"\x00", f16+"\xff", strings.Repeat("\xff", 1000), strings.Repeat("\x00", 17), strings.Repeat("a", 1<<17))
	check := func(in []string) {
		t.Helper()
		for _, text := range texts {
			least, is := "", false
			for _, key := range in {
				if key >= text && (!is || key < least) {
					least, is = key, true
				}
			}
			ref := 0
			if is {
				ref = slices.Index(keys, least) - 5
			}
			if got, _ := run(t, l.Next(text)); got != (answer{least, ref, is, api.OK}) {
				t.Errorf("Next(%q) in %q: %v", text, in, got)
			}
		}
	}
	check(nil)
	for i := range keys {
		at := i * 7 % len(keys)
		inserts(t, l, keys[at], at-5, i%8+1)
		var in []string
		for j := range i + 1 {
			in = append(in, keys[j*7%len(keys)])
		}
		check(in)
	}
}

// P10.2: what is done stays as it is, however often it is stepped, whatever comes in meanwhile.
func TestStepOfWhatIsDone(t *testing.T) {
	l, a := room(t, 6)
	ops := []*skip.Op{l.Lookup("b"), l.Next(""), l.Insert("b", 7, 2), l.Insert("b", 8, 8), l.Lookup("b"), l.Next("a"), l.Insert("a", 9, 3), l.Next("a"), l.Next("c"), l.Insert("c", 10, 2), l.Insert("c", 11, 1), l.Insert("d", 12, 1), l.Next("c"), l.Insert("", 1, 1)}
	want := []answer{{}, {}, {"b", 7, false, 0}, {"b", 7, true, 0}, {"b", 7, true, 0}, {"b", 7, true, 0}, {"a", 9, false, 0}, {"a", 9, true, 0}, {}, {code: api.ErrCellsFull}, {"c", 11, false, 0}, {code: api.ErrCellsFull}, {"c", 11, true, 0}, {code: api.ErrSkipKey}}
	again := func() {
		steps, used := a.Steps(), a.Used()
		for i, o := range ops {
			for range 3 {
				if told(o) != notDone && (!o.Step() || told(o) != want[i]) {
					t.Errorf("operation %d, done and stepped again: %v, not %v", i, told(o), want[i])
				}
			}
		}
		if a.Steps() != steps || a.Used() != used {
			t.Error("a step of what is done has touched cells")
		}
	}
	for i, o := range ops {
		if got, _ := run(t, o); got != want[i] {
			t.Errorf("operation %d: %v, not %v", i, got, want[i])
		}
		again()
	}
	hasKeys(t, l, "a", "b", "c")
	again()
}

// P10.2, P10.3, P10.5: fewer cells are free than the tower is high: of a key that is there, and of one that is not; nothing is left taken.
func TestInsertWithoutEnoughCells(t *testing.T) {
	for height := 1; height <= 8; height++ {
		for free := range height {
			for n := range 4 {
				l, a := room(t, 4*n+height)
				keys := []string{"a", "c", "e"}[:n]
				for i, key := range keys {
					inserts(t, l, key, i, 4)
				}
				var mine []int
				for a.Used() < heads+4*n+height-free {
					cell, _ := a.Alloc()
					a.Store(cell, 77)
					mine = append(mine, cell)
				}
				before := shown(a, heads+4*n+height)
				same := func() {
					t.Helper()
					uses(t, a, heads+4*n+height-free)
					if changed(before, shown(a, heads+4*n+height)) != 0 {
						t.Error("an Insert without enough cells has changed some")
					}
				}
				for _, key := range keys {
					finds(t, "Insert of what is there", l.Insert(key, 99, height), key, slices.Index(keys, key))
					same()
				}
				for _, key := range []string{"A", "b", "d", "f"} {
					refuses(t, "Insert of what is not", l.Insert(key, 99, height), api.ErrCellsFull)
					same()
					findsNone(t, "Lookup of what was not put in", l.Lookup(key))
					hasKeys(t, l, keys...)
				}
				full := l.Insert("d", 99, height)
				run(t, full)
				for _, cell := range mine {
					a.Free(cell)
				}
				inserts(t, l, "d", 5, height)
				refuses(t, "the Insert that was told of too few cells", full, api.ErrCellsFull)
			}
		}
	}
}

// P10.3: a key names whatever number it was put in with.
func TestRefs(t *testing.T) {
	l, _ := room(t, 40)
	for i, ref := range []int{0, 1, -1, math.MinInt, math.MaxInt, 1 << 32, -1 << 32} {
		key := strconv.Itoa(i)
		inserts(t, l, key, ref, i)
		finds(t, "Insert again", l.Insert(key, ref+1, 1), key, ref)
		finds(t, "Lookup", l.Lookup(key), key, ref)
		finds(t, "Next", l.Next(key), key, ref)
	}
}

// inEachOrder calls for each order of a list's things.
func inEachOrder(l []string, call func([]string)) {
	if len(l) == 0 {
		call(nil)
		return
	}
	for i := range l {
		rest := slices.Delete(slices.Clone(l), i, i+1)
		inEachOrder(rest, func(behind []string) { call(append([]string{l[i]}, behind...)) })
	}
}

// P10.3: keys ahead of all others, between them and behind them, put in in each order, in low and high towers.
func TestKeysInEachOrder(t *testing.T) {
	for _, heights := range [][]int{{1, 1, 1, 1, 1}, {8, 8, 8, 8, 8}, {1, 2, 3, 4, 5}, {5, 4, 3, 2, 1}, {1, 8, 1, 8, 1}, {3, 1, 8, 2, 2}} {
		inEachOrder([]string{"b", "d", "f", "h", "j"}, func(order []string) {
			l, a := room(t, 60)
			used := heads
			for i, key := range order {
				findsNone(t, "Lookup ahead", l.Lookup(key))
				inserts(t, l, key, int(key[0]), heights[i])
				used += heights[i]
				uses(t, a, used)
				in := slices.Clone(order[:i+1])
				slices.Sort(in)
				hasKeys(t, l, in...)
				for text := byte('a'); text <= 'k'; text++ {
					at, is := slices.BinarySearch(in, string(text))
					if is {
						finds(t, "Lookup", l.Lookup(string(text)), in[at], int(text))
						finds(t, "Insert again", l.Insert(string(text), 1, 1), in[at], int(text))
					} else {
						findsNone(t, "Lookup of none", l.Lookup(string(text)))
					}
					if at == len(in) {
						findsNone(t, "Next", l.Next(string(text)))
					} else {
						finds(t, "Next", l.Next(string(text)), in[at], int(in[at][0]))
					}
				}
			}
		})
		if t.Failed() {
			return
		}
	}
}

// P10.3: of several Inserts of a key, begun ahead of all others and stepped one round after the other, just one puts it in.
func TestManyInsertsOfAKey(t *testing.T) {
	for _, n := range []int{1, 2, 3, 16, 100} {
		for ahead := range 4 {
			for _, height := range []int{1, 3, 8} {
				l, a := room(t, 100*8+4)
				for i := range ahead {
					inserts(t, l, "before"+strconv.Itoa(i), 1, 1)
				}
				ops := make([]*skip.Op, n)
				for i := range ops {
					ops[i] = l.Insert("k", 100+i, height)
				}
				for range (8*n + 1) * (ahead + n + 32) {
					for _, o := range ops {
						o.Step()
					}
				}
				first := slices.IndexFunc(ops, func(o *skip.Op) bool { return told(o).code == api.OK && !told(o).had })
				for i, o := range ops {
					if told(o) != (answer{"k", 100 + first, i != first, api.OK}) {
						t.Fatalf("Insert %d of %d: %v, and %d put it in", i, n, told(o), first)
					}
				}
				finds(t, "Lookup", l.Lookup("k"), "k", 100+first)
				uses(t, a, heads+ahead+height)
			}
		}
	}
}

// manyKeys are so many, rising, falling, or neither.
func manyKeys(n int, how string) []string {
	keys := make([]string, n)
	for i := range keys {
		at := i
		switch how {
		case "falling":
			at = n - 1 - i
		case "neither":
			at = i * 37 % n
		}
		keys[i] = "k" + strconv.Itoa(1000+at)
	}
	return keys
}

// Words: how many steps an operation takes that is stepped alone.
func TestStepsAlone(t *testing.T) {
	for _, how := range []string{"rising", "falling", "neither"} {
		for height := range 10 {
			l, a := room(t, 100*8+7)
			within := func(what string, o *skip.Op) {
				t.Helper()
				n := len(l.Keys())
				before := a.Steps()
				if _, steps := run(t, o); steps > 32+2*n || a.Steps()-before > steps {
					t.Errorf("%s with %d keys: %d steps, %d of the arena", what, n, steps, a.Steps()-before)
				}
			}
			heightOf := func(i int) int {
				if height == 9 {
					return i*i%8 + 1
				}
				return height
			}
			for i, key := range manyKeys(100, how) {
				within("Lookup of none", l.Lookup("z"))
				within("Lookup of none", l.Lookup("a"))
				within("Next of none", l.Next("z"))
				within("Next of the first", l.Next(""))
				within("Insert", l.Insert(key, i, heightOf(i)))
				within("Insert again", l.Insert(key, i, 8))
				within("Lookup", l.Lookup(key))
				within("Next", l.Next(key+"\x00"))
			}
			for a.Used() < heads+100*8 {
				a.Alloc()
			}
			within("Insert without enough cells", l.Insert("z", 1, 8))
			within("Insert without enough cells", l.Insert("a", 1, 8))
			uses(t, a, heads+100*8)
		}
	}
}

// Words: behind each step of an operation others are done, each of which puts a key in: how many steps it takes then.
func TestStepsWithOthersBetween(t *testing.T) {
	for _, how := range []string{"rising", "falling", "neither"} {
		for every := 1; every <= 4; every++ {
			for ahead := range 4 {
				for _, what := range []string{"Lookup", "Next", "Insert", "Insert of what comes"} {
					l, _ := room(t, 8*500)
					keys := manyKeys(400, how)
					for range ahead {
						inserts(t, l, keys[0], 0, 8)
						keys = keys[1:]
					}
					o := l.Insert("k2", 1, 8)
					switch what {
					case "Lookup":
						o = l.Lookup("k2")
					case "Next":
						o = l.Next("k2")
					}
					m, steps := 0, 1
					for ; !o.Step(); steps++ {
						if steps >= (8*m+1)*(ahead+m+32) {
							t.Fatalf("%s with %d keys and %d put in: not done in %d steps", what, ahead, m, steps)
						}
						if steps%every != 0 || m > 390 {
							continue
						}
						inserts(t, l, keys[m], 0, 8)
						m++
						if what == "Insert of what comes" && m == 12 {
							run(t, l.Insert("k2", 5, 8))
							m++
						}
					}
				}
			}
		}
	}
}

// Words: a step touches at most one cell: it is one step of the arena, or one cell is taken, or given back.
func TestAStepTouchesOneCell(t *testing.T) {
	const size = 60
	a := arena(t, size)
	l := list(t, a)
	step := func(o *skip.Op) bool {
		before, used := shown(a, size), a.Used()
		steps := a.Steps()
		done := o.Step()
		steps = a.Steps() - steps
		if used != a.Used() {
			steps++
		}
		if n := changed(before, shown(a, size)); steps > 1 || n > 1 {
			t.Errorf("a step touched %d cells, and changed %d", steps, n)
		}
		return done
	}
	for i, key := range []string{"m", "d", "x", "m2", "a", "z"} {
		ops := []*skip.Op{l.Insert(key, 1, i+2), l.Lookup(key), l.Insert(key, 2, 8-i), l.Insert("", 3, 1), l.Insert("m", 4, 8), l.Lookup("none"), l.Next(key), l.Next("")}
		for left := len(ops); left > 0; {
			for j, o := range ops {
				if o != nil && step(o) {
					ops[j], left = nil, left-1
				}
			}
		}
	}
	for a.Used() < size-4 {
		a.Alloc()
	}
	o := l.Insert("full", 1, 8)
	for !step(o) {
	}
	uses(t, a, size-4)
}

// P10.5: Keys stand bytewise, and take no step; what is not put in is not among them.
func TestKeysRise(t *testing.T) {
	l, a := room(t, 30)
	hasKeys(t, l)
	for i, key := range []string{"b", "\xff", "a", "aa", "\x00", "Z", "b\x00"} {
		inserts(t, l, key, 1, i/2+1)
	}
	run(t, l.Insert("b", 2, 3))
	run(t, l.Lookup("c"))
	run(t, l.Next("c"))
	run(t, l.Insert("", 1, 1))
	steps := a.Steps()
	hasKeys(t, l, "\x00", "Z", "a", "aa", "b", "b\x00", "\xff")
	if a.Steps() != steps {
		t.Error("Keys takes steps")
	}
}

// P10.5: what an Insert holds that was not first is free again as soon as it is done.
func TestCellsAreGivenBack(t *testing.T) {
	for height := 1; height <= 8; height++ {
		for stop := range 30 {
			l, a := room(t, 24)
			o := l.Insert("k", 1, height)
			for range stop {
				o.Step()
			}
			if a.Used() > heads+height {
				t.Errorf("an Insert of height %d holds %d cells", height, a.Used()-heads)
			}
			other, _ := run(t, l.Insert("k", 2, 3))
			mine, _ := run(t, o)
			used := height
			if !other.had {
				used = 3
			}
			if other.had == mine.had || other.ref != mine.ref {
				t.Errorf("stopped behind %d steps: %v, %v", stop, mine, other)
			}
			uses(t, a, heads+used)
			for i := range 24 - used {
				inserts(t, l, "l"+strconv.Itoa(100+i), 3, 1)
			}
			refuses(t, "Insert without a cell", l.Insert("o", 6, 1), api.ErrCellsFull)
		}
	}
}

// P10.3, P10.4: an Insert that rests, wherever, leaves its room to those that come, and is told what they have put.
func TestTheLastCellsWhileAnInsertRests(t *testing.T) {
	for height := 1; height <= 8; height++ {
		for other := 1; other <= 8; other++ {
			for stop := range 30 {
				for _, key := range []string{"k", "l"} {
					l, a := room(t, max(height, other))
					o := l.Insert("k", 1, height)
					for range stop {
						o.Step()
					}
					if len(l.Keys()) > 0 {
						continue
					}
					inserts(t, l, key, 2, other)
					used := other
					switch {
					case key == "k":
						finds(t, "the Insert that rested", o, "k", 2)
						hasKeys(t, l, "k")
					case height > max(height, other)-other:
						refuses(t, "the Insert that rested", o, api.ErrCellsFull)
						hasKeys(t, l, "l")
					default:
						answers(t, "the Insert that rested", o, "k", 1, false, api.OK)
						hasKeys(t, l, "k", "l")
						used += height
					}
					uses(t, a, heads+used)
				}
			}
		}
	}
}

// P10.3 to P10.5: whatever two Inserts hold that rest, none is told of too few cells that no key has, nor is one left behind.
func TestTheLastCellsWhileTwoInsertsRest(t *testing.T) {
	for one := range 26 {
		for two := range 26 {
			for free := 3; free <= 8; free++ {
				l, a := room(t, free)
				x, y := l.Insert("k", 1, 3), l.Insert("k", 2, 8)
				for range one {
					x.Step()
				}
				for range two {
					y.Step()
				}
				before := l.Keys()
				got, _ := run(t, l.Insert("k", 3, 3))
				if len(before) == 0 && got != (answer{"k", 3, false, api.OK}) {
					t.Errorf("%d and %d steps, %d free cells: %v", one, two, free, got)
				}
				run(t, y)
				run(t, x)
				hasKeys(t, l, "k")
				used := 3
				if got.ref == 2 {
					used = 8
				}
				uses(t, a, heads+used)
			}
		}
	}
}

// What follows: Next again and again goes through all keys that were in at the first, and rises, whatever is put in meanwhile.
func TestNextAgainAndAgain(t *testing.T) {
	for _, how := range []string{"rising", "falling", "neither"} {
		for every := 1; every < 40; every++ {
			l, _ := room(t, 8*200)
			keys := manyKeys(100, how)
			for i, key := range keys[:50] {
				inserts(t, l, key, i, i%8+1)
			}
			must, come := l.Keys(), keys[50:]
			var under []*skip.Op
			var passed []string
			steps := 0
			for o := l.Next(""); ; {
				for !o.Step() {
					steps++
					if steps%every == 0 && len(come) > 0 {
						under = append(under, l.Insert(come[0], 50+len(under), steps%8+1))
						come = come[1:]
					}
					for i, other := range under {
						if (steps+i)%3 == 0 {
							other.Step()
						}
					}
				}
				got := told(o)
				if !got.had {
					break
				}
				if slices.Index(keys, got.key) != got.ref {
					t.Fatalf("Next finds %v", got)
				}
				passed = append(passed, got.key)
				o = l.Next(got.key + "\x00")
			}
			if !slices.IsSorted(passed) || len(slices.Compact(slices.Clone(passed))) != len(passed) {
				t.Errorf("the keys do not rise: %q", passed)
			}
			for _, key := range must {
				if !slices.Contains(passed, key) {
					t.Errorf("%s was not gone through: %q", key, passed)
				}
			}
		}
	}
}

// P10.6: a nil list; one that New has not made is as good as none.
func TestNilList(t *testing.T) {
	for _, l := range []*skip.List{nil, {}} {
		for _, key := range []string{"a", "", strings.Repeat("k", 17)} {
			for _, o := range []*skip.Op{l.Insert(key, 5, 1), l.Insert(key, 5, -1), l.Lookup(key), l.Next(key)} {
				if told(o) != notDone {
					t.Errorf("ahead of its first step: %v", told(o))
				}
				for range 3 {
					if !o.Step() || told(o) != (answer{code: api.ErrNil}) {
						t.Errorf("an operation of no list, on %q: %v", key, told(o))
					}
				}
			}
		}
		if keys := l.Keys(); len(keys) != 0 {
			t.Errorf("Keys of no list: %q", keys)
		}
	}
}

// P10.6: a nil operation.
func TestNilOp(t *testing.T) {
	var o *skip.Op
	for range 2 {
		if told(o) != (answer{code: api.ErrNil}) || !o.Step() {
			t.Errorf("no operation: %v", told(o))
		}
	}
	o = &skip.Op{}
	if !o.Step() || told(o) != (answer{code: api.ErrNil}) {
		t.Errorf("an operation that no list has begun: %v", told(o))
	}
}

// R1: whatever others write into a list's cells, or free of them, no step panics.
func TestForeignNumbers(t *testing.T) {
	for _, number := range []uint64{1, 2, 3, 4, 1000, 1 << 31, 1 << 63, math.MaxUint64} {
		for at := range 2 * heads {
			for _, frees := range []bool{false, true} {
				l, a := room(t, 2*heads)
				inserts(t, l, "b", 1, 3)
				inserts(t, l, "d", 2, 8)
				rests := l.Insert("c", 3, 4)
				for range 14 {
					rests.Step()
				}
				if a.Store(at, number); frees {
					a.Free(at)
				}
				for _, o := range []*skip.Op{rests, l.Insert("a", 4, 2), l.Insert("c", 5, 1), l.Lookup("e"), l.Next("bb"), l.Next("e")} {
					for range 100 {
						o.Step()
					}
				}
				l.Keys()
			}
		}
	}
}

// R3: a key's bytes are the caller's, and may become others; the list has its own.
func TestKeysAreNotKept(t *testing.T) {
	l, _ := room(t, 30)
	b := []byte("key")
	handed := unsafe.String(&b[0], len(b))
	turn := func(o *skip.Op) *skip.Op {
		copy(b, "xyz")
		return o
	}
	answers(t, "Insert", turn(l.Insert(handed, 1, 2)), "key", 1, false, api.OK)
	hasKeys(t, l, "key")
	copy(b, "key")
	finds(t, "Lookup", turn(l.Lookup(handed)), "key", 1)
	findsNone(t, "Lookup of what the bytes became", l.Lookup("xyz"))
	copy(b, "key")
	finds(t, "Next", turn(l.Next(handed)), "key", 1)
	copy(b, "new")
	inserts(t, l, handed, 2, 3)
	copy(b, "xyz")
	hasKeys(t, l, "key", "new")
	finds(t, "Lookup", l.Lookup("new"), "new", 2)
}

// R3: what Keys and Ref answer is new memory, each time, and no two texts of it share any.
func TestAnswersAreNewMemory(t *testing.T) {
	l, _ := room(t, 30)
	keys := []string{"bcde", "a", "bcd"}
	var texts []string
	ref := func(o *skip.Op) {
		run(t, o)
		for range 2 {
			texts = append(texts, told(o).key)
		}
	}
	for _, key := range keys {
		ref(l.Insert(key, 1, 2))
		ref(l.Insert(key, 1, 2))
		ref(l.Lookup(key))
		ref(l.Next(key))
	}
	one, two := l.Keys(), l.Keys()
	texts = slices.Concat(texts, one, two, keys)
	var at []*byte
	for _, text := range texts {
		at = append(at, unsafe.StringData(text))
	}
	for i, p := range at {
		if slices.Index(at, p) != i {
			t.Errorf("texts %d and %d share memory: %q", slices.Index(at, p), i, texts[i])
		}
	}
	one[0] = "z"
	_ = append(one[:1], "y", "y", "y", "y")
	copy(unsafe.Slice(unsafe.StringData(two[2]), 4), "zzzz")
	hasKeys(t, l, "a", "bcd", "bcde")
	finds(t, "Lookup", l.Lookup("bcde"), "bcde", 1)
}
