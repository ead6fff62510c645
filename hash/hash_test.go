package hash_test

import (
	"math"
	"slices"
	"strconv"
	"strings"
	"testing"
	"unsafe"

	"varve/api"
	"varve/cells"
	"varve/hash"
	"varve/num"
)

// answer is what Ref tells.
type answer struct {
	ref  int
	had  bool
	code api.Errno
}

var notDone = answer{code: api.ErrArg}

func arena(t *testing.T, size int) *cells.Arena {
	t.Helper()
	a, e := cells.New(size)
	if e != api.OK {
		t.Fatalf("cells.New(%d): %v", size, e)
	}
	return a
}

func table(t *testing.T, a *cells.Arena, buckets int) *hash.Table {
	t.Helper()
	h, e := hash.New(a, buckets)
	if h == nil || e != api.OK {
		t.Fatalf("New with %d buckets: %v, %v", buckets, h, e)
	}
	return h
}

// room is a table with so many buckets, and its arena, in which so many cells are free.
func room(t *testing.T, buckets, free int) (*hash.Table, *cells.Arena) {
	t.Helper()
	a := arena(t, buckets+free)
	return table(t, a, buckets), a
}

func told(o *hash.Op) answer {
	ref, had, e := o.Ref()
	return answer{ref, had, e}
}

// run steps an operation until it is done: what it tells, and how many steps that took.
func run(t *testing.T, o *hash.Op) (answer, int) {
	t.Helper()
	for steps := 1; steps < 100000; steps++ {
		if o.Step() {
			return told(o), steps
		}
		if got := told(o); got != notDone {
			t.Fatalf("Ref of what is not done: %v", got)
		}
	}
	t.Fatal("it is never done")
	return answer{}, 0
}

func answers(t *testing.T, what string, o *hash.Op, ref int, had bool, code api.Errno) {
	t.Helper()
	if o == nil {
		t.Fatalf("%s: no operation", what)
	}
	if got, _ := run(t, o); got != (answer{ref, had, code}) {
		t.Errorf("%s: %v, not %v", what, got, answer{ref, had, code})
	}
}

func inserts(t *testing.T, h *hash.Table, key string, ref int) {
	t.Helper()
	answers(t, "Insert of "+strconv.Quote(key), h.Insert(key, ref), ref, false, api.OK)
}

func hasKeys(t *testing.T, h *hash.Table, want ...string) {
	t.Helper()
	if got := h.Keys(); !slices.Equal(got, want) {
		t.Errorf("Keys: %q, not %q", got, want)
	}
}

func uses(t *testing.T, a *cells.Arena, want int) {
	t.Helper()
	if a.Used() != want {
		t.Errorf("used: %d, not %d", a.Used(), want)
	}
}

// together are so many keys of one bucket, in no order of theirs.
func together(h *hash.Table, bucket, n int) []string {
	const tries = 1000003
	var keys []string
	for i := 0; len(keys) < n; i++ {
		if i == tries {
			panic("not so many keys in the bucket " + strconv.Itoa(bucket))
		}
		if key := "k" + strconv.Itoa(i*7919%tries); h.Bucket(key) == bucket {
			keys = append(keys, key)
		}
	}
	return keys
}

// cell is all that can be told of one.
type cell struct {
	number uint64
	code   api.Errno
}

// shown is all cells of an arena of that size. (It takes steps of the arena, and changes nothing else.)
func shown(a *cells.Arena, size int) []cell {
	all := make([]cell, size)
	for i := range all {
		all[i].number, all[i].code = a.Load(i)
	}
	return all
}

// changed is how many cells are other than they were, taken, free, or with another number.
func changed(before, after []cell) int {
	n := 0
	for i := range before {
		if before[i] != after[i] {
			n++
		}
	}
	return n
}

func TestExamples(t *testing.T) {
	h, a := room(t, 2, 50)
	answers(t, "Lookup of a", h.Lookup("a"), 0, false, api.OK)
	answers(t, "Insert of a", h.Insert("a", 7), 7, false, api.OK)
	answers(t, "Insert of a again", h.Insert("a", 8), 7, true, api.OK)
	answers(t, "Lookup of a", h.Lookup("a"), 7, true, api.OK)
	answers(t, "Insert of no bytes", h.Insert("", 1), 0, false, api.ErrHashKey)
	answers(t, "Insert of 17 bytes", h.Insert(strings.Repeat("k", 17), 1), 0, false, api.ErrHashKey)
	x, y := h.Insert("b", 1), h.Insert("b", 2)
	for range 100 {
		x.Step()
		y.Step()
	}
	first, second := told(x), told(y)
	if first.had {
		first, second = second, first
	}
	own := first == answer{1, false, api.OK} || first == answer{2, false, api.OK}
	if !own || second != (answer{first.ref, true, api.OK}) || told(x).had == told(y).had {
		t.Errorf("two Inserts of b: %v, %v", told(x), told(y))
	}
	hasKeys(t, h, "a", "b")
	uses(t, a, 4)
}

// P9.1: so many buckets as may be, in an arena with just enough free cells, and with more.
func TestNewTakesACellABucket(t *testing.T) {
	for _, buckets := range []int{1, 2, 3, 64, 255, 256} {
		for _, more := range []int{0, 1, 100} {
			a := arena(t, buckets+more)
			h := table(t, a, buckets)
			uses(t, a, buckets)
			hasKeys(t, h)
			if a.Steps() != 0 {
				t.Errorf("New took %d steps", a.Steps())
			}
			answers(t, "Lookup in a new table", h.Lookup("a"), 0, false, api.OK)
		}
	}
}

// P9.1: an arena without enough free cells is left as it was, wherever these stand.
func TestNewTakesAllOrNone(t *testing.T) {
	const size = 300
	for _, buckets := range []int{1, 2, 100, 256} {
		a := arena(t, size)
		for i := range size {
			a.Alloc()
			a.Store(i, uint64(i)+1000)
		}
		for i := range buckets - 1 {
			a.Free(i*size/buckets + 1)
		}
		before, steps := shown(a, size), a.Steps()
		if h, e := hash.New(a, buckets); h != nil || e != api.ErrCellsFull {
			t.Errorf("New with %d buckets: %v, %v", buckets, h, e)
		}
		uses(t, a, size-buckets+1)
		if a.Steps() != steps || changed(before, shown(a, size)) != 0 {
			t.Errorf("New with %d buckets has left something", buckets)
		}
		a.Free(size - 1)
		h := table(t, a, buckets)
		uses(t, a, size)
		answers(t, "Lookup", h.Lookup("a"), 0, false, api.OK)
	}
}

// P9.1: what may not be, and which error comes first.
func TestNewRefuses(t *testing.T) {
	wrong := []int{math.MinInt, -257, -256, -1, 0, 257, 258, 512, 1 << 32, 1<<32 + 1, math.MaxInt}
	for _, buckets := range append([]int{1, 2, 256}, wrong...) {
		if h, e := hash.New(nil, buckets); h != nil || e != api.ErrNil {
			t.Errorf("New of nil with %d buckets: %v, %v", buckets, h, e)
		}
	}
	empty, full := arena(t, 1000), arena(t, 1)
	full.Alloc()
	for _, buckets := range wrong {
		for _, a := range []*cells.Arena{empty, full} {
			if h, e := hash.New(a, buckets); h != nil || e != api.ErrArg {
				t.Errorf("New with %d buckets: %v, %v", buckets, h, e)
			}
		}
	}
	uses(t, empty, 0)
	uses(t, full, 1)
	for _, buckets := range []int{1, 2, 256} {
		if h, e := hash.New(full, buckets); h != nil || e != api.ErrCellsFull {
			t.Errorf("New with %d buckets in a full arena: %v, %v", buckets, h, e)
		}
	}
}

// P9.1: tables of one arena, and other cells of it, are apart.
func TestTablesOfOneArena(t *testing.T) {
	a := arena(t, 100)
	mine := make([]int, 3)
	tables := make([]*hash.Table, 3)
	for i := range tables {
		mine[i], _ = a.Alloc()
		a.Store(mine[i], math.MaxUint64-uint64(i))
		tables[i] = table(t, a, i+1)
	}
	for i, h := range tables {
		for k := range 5 {
			inserts(t, h, "key"+strconv.Itoa(k*(i+1)), 10*i+k)
		}
	}
	for i, h := range tables {
		for k := range 5 {
			answers(t, "Lookup", h.Lookup("key"+strconv.Itoa(k*(i+1))), 10*i+k, true, api.OK)
		}
		if len(h.Keys()) != 5 {
			t.Errorf("table %d: %q", i, h.Keys())
		}
		if n, e := a.Load(mine[i]); n != math.MaxUint64-uint64(i) || e != api.OK {
			t.Errorf("a cell that is none of the tables': %d, %v", n, e)
		}
	}
	answers(t, "Lookup in another table", tables[0].Lookup("key8"), 0, false, api.OK)
	uses(t, a, 3+1+2+3+15)
}

// P9.1: whichever cells are free, the first one too, may become buckets' and keys'.
func TestAnyCellMayBeAKeys(t *testing.T) {
	const size = 12
	for freed := range size {
		a := arena(t, size)
		for range size {
			a.Alloc()
		}
		for _, cell := range []int{(freed + 1) % size, (freed + 5) % size} {
			a.Free(cell)
		}
		h := table(t, a, 2)
		keys := together(h, freed%2, 3)
		for i, cell := range []int{freed, (freed + 7) % size, (freed + 3) % size} {
			a.Free(cell)
			inserts(t, h, keys[i], i)
		}
		for i, key := range keys {
			answers(t, "Lookup", h.Lookup(key), i, true, api.OK)
			answers(t, "Insert again", h.Insert(key, 99), i, true, api.OK)
		}
		uses(t, a, size)
	}
}

// P9.2, P9.4: what is not stepped has done nothing, and is not done.
func TestNothingIsDoneAheadOfTheFirstStep(t *testing.T) {
	h, a := room(t, 2, 3)
	inserts(t, h, "a", 7)
	before, steps := shown(a, 5), a.Steps()
	var l []*hash.Op
	for _, key := range []string{"a", "b", "c", "", strings.Repeat("k", 17)} {
		for range 10 {
			l = append(l, h.Insert(key, 8), h.Lookup(key))
		}
	}
	for range 2 {
		for _, o := range l {
			if got := told(o); got != notDone {
				t.Errorf("Ref ahead of the first step: %v", got)
			}
		}
	}
	uses(t, a, 3)
	hasKeys(t, h, "a")
	if a.Steps() != steps || changed(before, shown(a, 5)) != 0 {
		t.Error("something was done")
	}
	answers(t, "Lookup of b", h.Lookup("b"), 0, false, api.OK)
	inserts(t, h, "b", 9)
	inserts(t, h, "c", 10)
}

// P9.4: an operation tells what is there when it is stepped, not when it was begun.
func TestDoneBetweenFirstAndLastStep(t *testing.T) {
	for _, buckets := range []int{1, 7} {
		h, _ := room(t, buckets, 50)
		lookup, insert := h.Lookup("b"), h.Insert("b", 2)
		for _, key := range []string{"a", "b", "c"} {
			inserts(t, h, key, 1)
		}
		answers(t, "Lookup of b", lookup, 1, true, api.OK)
		answers(t, "Insert of b", insert, 1, true, api.OK)
	}
}

// P9.2: keys' lengths, and which bytes they have.
func TestKeysThatMayBe(t *testing.T) {
	h, a := room(t, 3, 100)
	may := []string{"a", "\x00", "\xff", "ab", "\x00\x00", "aa", strings.Repeat("k", 15), strings.Repeat("k", 16), strings.Repeat("\x00", 16), strings.Repeat("\xff", 16), "é", "a b\n"}
	for i, key := range may {
		answers(t, "Lookup", h.Lookup(key), 0, false, api.OK)
		inserts(t, h, key, i)
	}
	for i, key := range may {
		answers(t, "Lookup", h.Lookup(key), i, true, api.OK)
		answers(t, "Insert", h.Insert(key, 99), i, true, api.OK)
	}
	uses(t, a, 3+len(may))
	slices.Sort(may)
	hasKeys(t, h, may...)
}

// P9.2: what is no key is told with the first step, whether a cell is free or not, and touches none.
func TestKeysThatMayNotBe(t *testing.T) {
	for _, free := range []int{1, 2, 10} {
		h, a := room(t, 3, free)
		inserts(t, h, "a", 7)
		before := shown(a, 3+free)
		for _, key := range []string{"", strings.Repeat("k", 17), strings.Repeat("a", 18), strings.Repeat("\x00", 17), strings.Repeat("k", 256), strings.Repeat("k", 272), strings.Repeat("k", 1<<16+1)} {
			for _, o := range []*hash.Op{h.Insert(key, 5), h.Lookup(key)} {
				steps := a.Steps()
				if !o.Step() || told(o) != (answer{code: api.ErrHashKey}) {
					t.Errorf("a key of %d bytes: %v", len(key), told(o))
				}
				if !o.Step() || told(o) != (answer{code: api.ErrHashKey}) || a.Steps() != steps {
					t.Errorf("a key of %d bytes, stepped again: %v, %d steps", len(key), told(o), a.Steps()-steps)
				}
			}
		}
		uses(t, a, 4)
		hasKeys(t, h, "a")
		if changed(before, shown(a, 3+free)) != 0 {
			t.Error("cells were touched")
		}
	}
}

// P9.2: what is done stays as it is, however often it is stepped, whatever comes in meanwhile.
func TestStepOfWhatIsDone(t *testing.T) {
	h, a := room(t, 2, 3)
	l := []*hash.Op{h.Lookup("a"), h.Insert("a", 7), h.Insert("a", 8), h.Lookup("a"), h.Insert("b", 9), h.Insert("c", 10), h.Insert("d", 11), h.Lookup("d"), h.Insert("", 1)}
	want := []answer{{}, {7, false, 0}, {7, true, 0}, {7, true, 0}, {9, false, 0}, {10, false, 0}, {code: api.ErrCellsFull}, {}, {code: api.ErrHashKey}}
	again := func() {
		steps, used := a.Steps(), a.Used()
		for i, o := range l {
			for range 3 {
				if told(o) != notDone && (!o.Step() || told(o) != want[i]) {
					t.Errorf("operation %d, done and stepped again: %v, not %v", i, told(o), want[i])
				}
			}
		}
		if a.Steps() != steps || a.Used() != used {
			t.Error("a step of what is done has touched cells")
		}
	}
	for i, o := range l {
		if got, _ := run(t, o); got != want[i] {
			t.Errorf("operation %d: %v, not %v", i, got, want[i])
		}
		again()
	}
	other, _ := a.Alloc()
	a.Free(other)
	hasKeys(t, h, "a", "b", "c")
	again()
}

// P9.2, P9.3: no cell is free: of a key that is there, and of one that is not.
func TestInsertWithoutAFreeCell(t *testing.T) {
	for _, buckets := range []int{1, 2, 5} {
		for n := range 6 {
			h, a := room(t, buckets, n+1)
			keys := []string{"a", "b", "c", "d", "e"}[:n]
			for i, key := range keys {
				inserts(t, h, key, i)
			}
			mine, _ := a.Alloc()
			a.Store(mine, 77)
			for range 2 {
				before := shown(a, buckets+n+1)
				for i, key := range keys {
					answers(t, "Insert of what is there", h.Insert(key, 99), i, true, api.OK)
					answers(t, "Lookup", h.Lookup(key), i, true, api.OK)
				}
				answers(t, "Insert of what is not", h.Insert("x", 99), 0, false, api.ErrCellsFull)
				answers(t, "Lookup of what was not put in", h.Lookup("x"), 0, false, api.OK)
				hasKeys(t, h, keys...)
				uses(t, a, buckets+n+1)
				if changed(before, shown(a, buckets+n+1)) != 0 {
					t.Error("an Insert without a cell has changed cells")
				}
			}
			full := h.Insert("x", 99)
			run(t, full)
			a.Free(mine)
			inserts(t, h, "x", 5)
			answers(t, "the Insert that was told of no cell", full, 0, false, api.ErrCellsFull)
		}
	}
}

// P9.3: a key names whatever number it was put in with.
func TestRefs(t *testing.T) {
	h, _ := room(t, 2, 20)
	for i, ref := range []int{0, 1, -1, math.MinInt, math.MaxInt, 1 << 32, -1 << 32} {
		key := strconv.Itoa(i)
		inserts(t, h, key, ref)
		answers(t, "Insert again", h.Insert(key, ref+1), ref, true, api.OK)
		answers(t, "Lookup", h.Lookup(key), ref, true, api.OK)
	}
}

// P9.3: many keys, in one bucket and in several, one operation behind the other.
func TestManyKeys(t *testing.T) {
	for _, buckets := range []int{1, 2, 7, 256} {
		h, a := room(t, buckets, 400)
		keys := together(h, buckets/2, 40)
		for i := range 300 {
			keys = append(keys, "m"+strconv.Itoa(i))
		}
		for i, key := range keys {
			if t.Failed() {
				t.FailNow() // what follows would say it again and again
			}
			answers(t, "Lookup ahead", h.Lookup(key), 0, false, api.OK)
			inserts(t, h, key, i)
			uses(t, a, buckets+i+1)
			answers(t, "Lookup behind", h.Lookup(key), i, true, api.OK)
			answers(t, "Insert again", h.Insert(key, -1), i, true, api.OK)
			uses(t, a, buckets+i+1)
		}
		for i, key := range keys {
			answers(t, "Lookup at last", h.Lookup(key), i, true, api.OK)
			answers(t, "Lookup of none", h.Lookup(key+"x"), 0, false, api.OK)
		}
		slices.Sort(keys)
		hasKeys(t, h, keys...)
	}
}

// P9.3: of several Inserts of a key, begun ahead of all others and stepped one round after the other, just one puts it in.
func TestManyInsertsOfAKey(t *testing.T) {
	for _, n := range []int{1, 2, 3, 16, 100} {
		for ahead := range 4 {
			h, a := room(t, 1, 120)
			for i := range ahead {
				inserts(t, h, "before"+strconv.Itoa(i), 1)
			}
			l := make([]*hash.Op, n)
			for i := range l {
				l[i] = h.Insert("k", 100+i)
			}
			for range 8 + 4*ahead + 4 {
				for _, o := range l {
					o.Step()
				}
			}
			first := slices.IndexFunc(l, func(o *hash.Op) bool { return told(o).code == api.OK && !told(o).had })
			for i, o := range l {
				if told(o) != (answer{100 + first, i != first, api.OK}) {
					t.Fatalf("Insert %d of %d: %v, and %d put it in", i, n, told(o), first)
				}
			}
			answers(t, "Lookup", h.Lookup("k"), 100+first, true, api.OK)
			uses(t, a, 1+ahead+1)
		}
	}
}

// Words: how many steps an operation takes that is stepped alone, in one bucket and in several.
func TestStepsAlone(t *testing.T) {
	for _, buckets := range []int{1, 2, 256} {
		h, a := room(t, buckets, 120)
		keys := together(h, 0, 102)
		within := func(what string, o *hash.Op) {
			t.Helper()
			n := len(h.Keys())
			before := a.Steps()
			if _, steps := run(t, o); steps > 8+4*n || a.Steps()-before > steps {
				t.Errorf("%s with %d keys: %d steps, %d of the arena", what, n, steps, a.Steps()-before)
			}
		}
		for i := range 100 {
			within("Lookup of none", h.Lookup(keys[100]))
			within("Insert", h.Insert(keys[i], i))
			within("Insert again", h.Insert(keys[i], i))
			within("Lookup of the first", h.Lookup(keys[0]))
			within("Lookup of the last", h.Lookup(keys[i]))
		}
		for a.Used() < buckets+120 {
			a.Alloc()
		}
		within("Insert without a cell", h.Insert(keys[101], 1))
		uses(t, a, buckets+120)
	}
}

// Words: behind each step of an operation others are done, each of which puts a key into its bucket: how many steps it takes then.
func TestStepsWithOthersBetween(t *testing.T) {
	for every := 1; every <= 4; every++ {
		for many := 1; many <= 3; many++ {
			for ahead := range 4 {
				for _, what := range []string{"Lookup", "Insert", "Insert of what comes"} {
					h, _ := room(t, 1, 600)
					keys := together(h, 0, 500)
					for range ahead {
						inserts(t, h, keys[0], 0)
						keys = keys[1:]
					}
					o := h.Insert("victim", 1)
					if what == "Lookup" {
						o = h.Lookup("victim")
					}
					m, steps := 0, 1
					for ; !o.Step(); steps++ {
						if steps >= 8+4*ahead+4*m {
							t.Fatalf("%s with %d keys and %d put in: not done in %d steps", what, ahead, m, steps)
						}
						if steps%every != 0 || m > 400 {
							continue
						}
						for range many {
							inserts(t, h, keys[m], 0)
							m++
						}
						if what == "Insert of what comes" && m == 12 {
							inserts(t, h, "victim", 5)
							m++
						}
					}
					if steps > 8+4*ahead+4*m {
						t.Errorf("%s with %d keys and %d put in: %d steps", what, ahead, m, steps)
					}
				}
			}
		}
	}
}

// Words: a step touches at most one cell: it is one step of the arena, or one cell is taken, or given back.
func TestAStepTouchesOneCell(t *testing.T) {
	const size = 30
	a := arena(t, size)
	h := table(t, a, 2)
	keys := together(h, 1, 6)
	step := func(o *hash.Op) bool {
		before, used := shown(a, size), a.Used()
		steps := a.Steps()
		done := o.Step()
		steps = a.Steps() - steps
		if used != a.Used() {
			steps++
		}
		if n := changed(before, shown(a, size)); steps > 1 || n > 1 {
			t.Errorf("a step touched %d cells, and changed %d", steps, n)
		}
		return done
	}
	for i := range keys {
		l := []*hash.Op{h.Insert(keys[i], 1), h.Lookup(keys[i]), h.Insert(keys[i], 2), h.Insert("", 3), h.Insert(keys[0], 4), h.Lookup("none")}
		for left := len(l); left > 0; {
			for j, o := range l {
				if o != nil && step(o) {
					l[j], left = nil, left-1
				}
			}
		}
	}
	for a.Used() < size {
		a.Alloc()
	}
	o := h.Insert("full", 1)
	for !step(o) {
	}
}

// P9.5: a key's bucket is its sum, modulo how many buckets there are.
func TestBucket(t *testing.T) {
	for _, buckets := range []int{1, 2, 3, 10, 255, 256} {
		h, a := room(t, buckets, 1)
		for i := range 2000 {
			key := strings.Repeat("\xf3", i%14) + string([]byte{byte(i), byte(i >> 8)})
			if got, want := h.Bucket(key), int(num.Crc([]byte(key))%uint32(buckets)); got != want {
				t.Errorf("Bucket(%q) of %d: %d, not %d", key, buckets, got, want)
			}
		}
		for _, none := range []string{"", strings.Repeat("k", 17), strings.Repeat("x", 17), strings.Repeat("x", 100)} {
			if got := h.Bucket(none); got != 0 {
				t.Errorf("Bucket of %d bytes: %d", len(none), got)
			}
		}
		if a.Steps() != 0 || a.Used() != buckets {
			t.Error("Bucket touches cells")
		}
	}
	h, _ := room(t, 256, 1)
	if got := h.Bucket("123456789"); got != 0x26 {
		t.Errorf("Bucket: %d", got)
	}
	h, _ = room(t, 10, 1)
	if got := h.Bucket("123456789"); got != 0xCBF43926%10 {
		t.Errorf("Bucket: %d", got)
	}
}

// P9.5: Keys stand bytewise, and take no step; what is not put in is not among them.
func TestKeysRise(t *testing.T) {
	h, a := room(t, 3, 9)
	hasKeys(t, h)
	for _, key := range []string{"b", "\xff", "a", "aa", "\x00", "Z", "b\x00"} {
		inserts(t, h, key, 1)
	}
	lost, none := h.Insert("b", 2), h.Lookup("c")
	run(t, lost)
	run(t, none)
	run(t, h.Insert("", 1))
	steps := a.Steps()
	hasKeys(t, h, "\x00", "Z", "a", "aa", "b", "b\x00", "\xff")
	if a.Steps() != steps {
		t.Error("Keys takes steps")
	}
}

// P9.5: what an Insert holds that was not first is free again as soon as it is done.
func TestCellsAreGivenBack(t *testing.T) {
	for stop := range 12 {
		h, a := room(t, 1, 4)
		o := h.Insert("k", 1)
		for range stop {
			o.Step()
		}
		if a.Used() > 2 {
			t.Errorf("an Insert holds %d cells", a.Used()-1)
		}
		other, _ := run(t, h.Insert("k", 2))
		mine, _ := run(t, o)
		if other.had == mine.had || other.ref != mine.ref {
			t.Errorf("stopped behind %d steps: %v, %v", stop, mine, other)
		}
		uses(t, a, 2)
		inserts(t, h, "l", 3)
		inserts(t, h, "m", 4)
		inserts(t, h, "n", 5)
		answers(t, "Insert without a cell", h.Insert("o", 6), 0, false, api.ErrCellsFull)
	}
}

// P9.3, P9.4: an Insert that rests, wherever, leaves its room to those that come, and is told what they have put.
func TestTheLastCellWhileAnInsertRests(t *testing.T) {
	for stop := range 8 {
		for _, key := range []string{"k", "l"} {
			h, a := room(t, 1, 1)
			o := h.Insert("k", 1)
			for range stop {
				o.Step()
			}
			if told(o) != notDone {
				continue
			}
			inserts(t, h, key, 2)
			if key == "k" {
				answers(t, "the Insert that rested", o, 2, true, api.OK)
			} else {
				answers(t, "the Insert that rested", o, 0, false, api.ErrCellsFull)
			}
			hasKeys(t, h, key)
			uses(t, a, 2)
		}
	}
}

// P9.6: a nil table; one that New has not made is as good as none.
func TestNilTable(t *testing.T) {
	for _, h := range []*hash.Table{nil, {}} {
		for _, key := range []string{"a", "", strings.Repeat("k", 17)} {
			for _, o := range []*hash.Op{h.Insert(key, 5), h.Lookup(key)} {
				if told(o) != notDone {
					t.Errorf("ahead of its first step: %v", told(o))
				}
				for range 3 {
					if !o.Step() || told(o) != (answer{code: api.ErrNil}) {
						t.Errorf("an operation of no table, on %q: %v", key, told(o))
					}
				}
			}
			if h.Bucket(key) != 0 {
				t.Errorf("Bucket of no table: %d", h.Bucket(key))
			}
		}
		if l := h.Keys(); len(l) != 0 {
			t.Errorf("Keys of no table: %q", l)
		}
	}
}

// P9.6: a nil operation.
func TestNilOp(t *testing.T) {
	var o *hash.Op
	for range 2 {
		if told(o) != (answer{code: api.ErrNil}) || !o.Step() {
			t.Errorf("no operation: %v", told(o))
		}
	}
	o = &hash.Op{}
	if !o.Step() || told(o) != (answer{code: api.ErrNil}) {
		t.Errorf("an operation that no table has begun: %v", told(o))
	}
}

// R3: a key's bytes are the caller's, and may become others; the table has its own.
func TestKeysAreNotKept(t *testing.T) {
	h, _ := room(t, 1, 9)
	b := []byte("key")
	handed := unsafe.String(&b[0], len(b))
	turn := func(o *hash.Op) *hash.Op {
		copy(b, "xyz")
		return o
	}
	answers(t, "Insert", turn(h.Insert(handed, 1)), 1, false, api.OK)
	hasKeys(t, h, "key")
	copy(b, "key")
	answers(t, "Lookup", turn(h.Lookup(handed)), 1, true, api.OK)
	answers(t, "Lookup of what the bytes became", h.Lookup("xyz"), 0, false, api.OK)
	copy(b, "new")
	inserts(t, h, handed, 2)
	copy(b, "xyz")
	hasKeys(t, h, "key", "new")
	answers(t, "Lookup", h.Lookup("new"), 2, true, api.OK)
}

// R3: what Keys answers is new memory, each time, and no two texts of it share any.
func TestKeysAreNewMemory(t *testing.T) {
	h, _ := room(t, 2, 9)
	for _, key := range []string{"bcde", "a", "bcd"} {
		inserts(t, h, key, 1)
	}
	one, two := h.Keys(), h.Keys()
	var at []*byte
	for _, key := range append(slices.Clone(one), two...) {
		at = append(at, unsafe.StringData(key))
	}
	for i, p := range at {
		if slices.Index(at, p) != i {
			t.Errorf("keys %d and %d share memory", slices.Index(at, p), i)
		}
	}
	one[0] = "z"
	_ = append(one[:1], "y", "y", "y", "y")
	copy(unsafe.Slice(unsafe.StringData(two[2]), 4), "zzzz")
	hasKeys(t, h, "a", "bcd", "bcde")
	answers(t, "Lookup", h.Lookup("bcde"), 1, true, api.OK)
}
