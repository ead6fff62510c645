package skip_test

import (
	"fmt"
	"maps"
	"math/bits"
	"math/rand"
	"slices"
	"strconv"
	"testing"

	"varve/api"
	"varve/cells"
	"varve/skip"
)

// What an operation is begun for.
const (
	lookup = iota
	next
	insert
)

// begun is an operation that runs beside others, and what was seen of it.
type begun struct {
	op          *skip.Op
	kind        int
	key         string
	ref         int
	height      int
	most        int // steps that it gets, if it is not done with fewer
	had         int // keys of the list when it was begun
	steps       int
	others      map[int]bool // Inserts that were stepped since it was begun
	first, last int          // when it was stepped
	done        bool
	got         answer
}

// world is a list, operations on it, and a clock that goes on with each step.
type world struct {
	t     *testing.T
	l     *skip.List
	a     *cells.Arena
	free  int // cells that keys may take
	ops   []*begun
	now   int
	picks []int    // which operation was stepped when
	keys  []string // that are in
}

const always = 1 << 30

func newWorld(t *testing.T, free int) *world {
	t.Helper()
	l, a := room(t, free)
	return &world{t: t, l: l, a: a, free: free}
}

func (w *world) insert(key string, height int) *world { return w.begin(insert, key, height, always) }

func (w *world) lookup(key string) *world { return w.begin(lookup, key, 0, always) }

func (w *world) next(key string) *world { return w.begin(next, key, 0, always) }

func (w *world) begin(kind int, key string, height, most int) *world {
	b := &begun{kind: kind, key: key, ref: len(w.ops) + 100, height: height, most: most, had: len(w.keys), others: map[int]bool{}}
	switch kind {
	case lookup:
		b.op = w.l.Lookup(key)
	case next:
		b.op = w.l.Next(key)
	case insert:
		b.op = w.l.Insert(key, b.ref, height)
	}
	w.ops = append(w.ops, b)
	return w
}

// each steps each operation so many times, one behind the other.
func (w *world) each(steps int) *world {
	for i := range w.ops {
		w.stepOn(i, steps)
	}
	return w
}

// whole steps the last operation up to its end.
func (w *world) whole() *world {
	w.stepOn(len(w.ops)-1, always)
	return w
}

func (w *world) stepOn(i, steps int) {
	for b := w.ops[i]; steps > 0 && !b.done && b.steps < b.most; steps-- {
		w.step(i)
	}
}

func (w *world) String() string {
	s := fmt.Sprintf("%d free cells, stepped %v:", w.free, w.picks)
	for _, b := range w.ops {
		s += fmt.Sprintf(" {%s %q of height %d: %d steps, done %t, %v}", []string{"lookup", "next", "insert"}[b.kind], b.key, b.height, b.steps, b.done, b.got)
	}
	return s
}

// left are the operations that may be stepped on.
func (w *world) left() []int {
	var l []int
	for i, b := range w.ops {
		if !b.done && b.steps < b.most {
			l = append(l, i)
		}
	}
	return l
}

// step steps an operation, and holds what can be seen against what was promised.
func (w *world) step(i int) {
	w.t.Helper()
	b := w.ops[i]
	w.now++
	w.picks = append(w.picks, i)
	if b.steps == 0 {
		b.first = w.now
	}
	if got := told(b.op); got != notDone {
		w.t.Fatalf("Ref of %d, which is not done: %v: %v", i, got, w)
	}
	before := shown(w.a, heads+w.free)
	steps, used := w.a.Steps(), w.a.Used()
	b.done = b.op.Step()
	touched := w.a.Steps() - steps
	if w.a.Used() != used {
		touched++
	}
	b.steps++
	b.last = w.now
	b.got = told(b.op)
	if n := changed(before, shown(w.a, heads+w.free)); touched > 1 || n > 1 {
		w.t.Fatalf("a step of %d touched %d cells, and changed %d: %v", i, touched, n, w)
	}
	if b.kind == insert {
		for j, other := range w.ops {
			if j != i && !other.done {
				other.others[i] = true
			}
		}
	}
	w.keysStay()
	w.cellsAreKeysOrHeld()
	w.isSoonDone(i)
}

func (w *world) keysStay() {
	w.t.Helper()
	keys := w.l.Keys()
	for _, key := range w.keys {
		if !slices.Contains(keys, key) {
			w.t.Fatalf("%q has gone: %v", key, w)
		}
	}
	if !slices.IsSorted(keys) || len(slices.Compact(slices.Clone(keys))) != len(keys) {
		w.t.Fatalf("the keys do not rise: %q", keys)
	}
	w.keys = keys
}

// cellsAreKeysOrHeld: as many cells are taken as the keys that are in need, and Inserts that are under way may hold.
func (w *world) cellsAreKeysOrHeld() {
	w.t.Helper()
	least, most := 0, 0
	lowest := map[string]int{}
	for _, key := range w.keys {
		lowest[key] = 1000
	}
	for _, b := range w.ops {
		switch {
		case b.kind != insert || b.steps == 0:
		case !b.done:
			most += b.height
			if low, is := lowest[b.key]; is {
				lowest[b.key] = min(low, b.height)
			}
		case b.got.code == api.OK && !b.got.had:
			most += b.height
			least += b.height
			lowest[b.key] = 0 // the tower is known
		}
	}
	for _, low := range lowest {
		least += low
	}
	if n := w.a.Used() - heads; n < least || n > most {
		w.t.Fatalf("%d cells are taken, not %d to %d: %v", n, least, most, w)
	}
}

// isSoonDone: by the least numbers that the words may mean: the keys when it was begun, and the Inserts beside it that were stepped since.
func (w *world) isSoonDone(i int) {
	w.t.Helper()
	b := w.ops[i]
	m := len(b.others)
	most := (8*m + 1) * (b.had + m + 32)
	if m == 0 {
		most = 32 + 2*b.had
	}
	if b.steps > most || b.steps == most && !b.done {
		w.t.Fatalf("%d, with %d keys and %d Inserts, is not done within %d steps: %v", i, b.had, m, most, w)
	}
}

// named is what a plain list has of a key.
type named struct{ ref, height int }

// ends: all that was answered is as if each operation was done at one moment, and the keys that are in are told.
func (w *world) ends() {
	w.t.Helper()
	if !w.order(0, map[string]named{}, map[string]bool{}) {
		w.t.Fatalf("no order of the operations answers this: keys %q, %v", w.keys, w)
	}
}

// order: is there one of all that were stepped and are not among those that are done, each done in what the ones ahead of it have left? One that is not done yet may come, or not.
func (w *world) order(mask int, has map[string]named, seen map[string]bool) bool {
	here := fmt.Sprint(mask, has)
	if seen[here] {
		return false
	}
	seen[here] = true
	if w.allDone(mask) && slices.Equal(slices.Sorted(maps.Keys(has)), w.keys) {
		return true
	}
	for i, b := range w.ops {
		if mask&(1<<i) != 0 || b.steps == 0 || !w.mayBeNext(mask, i) {
			continue
		}
		got := w.plainly(b, has)
		if b.done && got != b.got {
			continue
		}
		puts := b.kind == insert && !got.had && got.code == api.OK
		if puts {
			has[b.key] = named{b.ref, b.height}
		}
		if w.order(mask|1<<i, has, seen) {
			return true
		}
		if puts {
			delete(has, b.key)
		}
	}
	return false
}

// plainly is what an operation is answered that is done at one moment.
func (w *world) plainly(b *begun, has map[string]named) answer {
	keys := slices.Sorted(maps.Keys(has))
	at, is := slices.BinarySearch(keys, b.key)
	used := 0
	for _, n := range has {
		used += n.height
	}
	switch {
	case is || b.kind == next && at < len(keys):
		return answer{keys[at], has[keys[at]].ref, true, api.OK}
	case b.kind != insert:
		return answer{}
	case used+b.height > w.free:
		return answer{code: api.ErrCellsFull}
	}
	return answer{b.key, b.ref, false, api.OK}
}

func (w *world) allDone(mask int) bool {
	for i, b := range w.ops {
		if b.done && mask&(1<<i) == 0 {
			return false
		}
	}
	return true
}

// mayBeNext: all that were done ahead of its first step come ahead of it.
func (w *world) mayBeNext(mask, i int) bool {
	for j, b := range w.ops {
		if mask&(1<<j) == 0 && b.done && b.last < w.ops[i].first {
			return false
		}
	}
	return true
}

// inAllOrders steps the operations of worlds like this one in all orders that there are: how many.
func inAllOrders(build func() *world) int {
	var picks []int
	for n := 1; ; n++ {
		w := build()
		var ways []int
		for left := w.left(); len(left) > 0; left = w.left() {
			if len(picks) == len(ways) {
				picks = append(picks, 0)
			}
			w.step(left[picks[len(ways)]])
			ways = append(ways, len(left))
		}
		w.ends()
		for len(picks) > 0 && picks[len(picks)-1] == ways[len(picks)-1]-1 {
			picks = picks[:len(picks)-1]
		}
		if len(picks) == 0 {
			return n
		}
		picks[len(picks)-1]++
	}
}

// P10.3, P10.4, P10.5, Words: two operations, stepped in all orders from where they come to the lowest levels, with as many free cells as there may be use for, and with fewer.
func TestAllOrdersOfTwo(t *testing.T) {
	for _, free := range []int{0, 1, 2, 3, 8} {
		for _, begins := range []func(w *world) *world{
			func(w *world) *world { return w.insert("a", 1).insert("a", 1) },
			func(w *world) *world { return w.insert("a", 1).insert("a", 2) },
			func(w *world) *world { return w.insert("a", 2).insert("a", 2) },
			func(w *world) *world { return w.insert("a", 2).insert("b", 2) },
			func(w *world) *world { return w.insert("b", 2).insert("a", 1) },
			func(w *world) *world { return w.insert("a", 2).lookup("a") },
			func(w *world) *world { return w.insert("a", 2).lookup("b") },
			func(w *world) *world { return w.insert("a", 2).next("a") },
			func(w *world) *world { return w.insert("b", 2).next("a") },
		} {
			inAllOrders(func() *world { return begins(newWorld(t, free)).each(6) })
		}
	}
}

// P10.3, P10.4: two operations beside keys that are there, ahead, between and behind.
func TestAllOrdersBesideKeys(t *testing.T) {
	for _, height := range []int{1, 2} {
		for _, begins := range []func(w *world) *world{
			func(w *world) *world { return w.insert("a", 2).insert("c", 2) },
			func(w *world) *world { return w.insert("c", 2).insert("c", 1) },
			func(w *world) *world { return w.insert("c", 2).insert("cc", 2) },
			func(w *world) *world { return w.insert("cc", 2).insert("c", 2) },
			func(w *world) *world { return w.insert("e", 2).next("d\x00") },
			func(w *world) *world { return w.insert("c", 2).next("b\x00") },
			func(w *world) *world { return w.insert("a", 2).next("") },
			func(w *world) *world { return w.insert("b", 2).insert("d", 1) },
		} {
			inAllOrders(func() *world {
				w := newWorld(t, 7)
				w.insert("b", height).whole().insert("d", 1).whole()
				return begins(w).each(7)
			})
		}
	}
}

// P10.3, P10.4, P10.5: three operations, in all orders on the lowest level.
func TestAllOrdersOfThree(t *testing.T) {
	for _, free := range []int{1, 2, 3} {
		for _, begins := range []func(w *world) *world{
			func(w *world) *world { return w.insert("a", 1).insert("a", 1).insert("a", 1) },
			func(w *world) *world { return w.insert("a", 1).insert("b", 1).insert("a", 1) },
			func(w *world) *world { return w.insert("a", 1).insert("b", 1).next("") },
			func(w *world) *world { return w.insert("a", 1).next("").lookup("a") },
			func(w *world) *world { return w.insert("b", 2).insert("a", 1).lookup("b") },
		} {
			inAllOrders(func() *world { return begins(newWorld(t, free)).each(7) })
		}
	}
}

// P10.3: three Inserts of one key, two levels high; how many orders there are shows that they are stepped in all.
func TestAllOrdersOfThreeInsertsOfAKey(t *testing.T) {
	n := inAllOrders(func() *world {
		return newWorld(t, 5).insert("a", 1).insert("a", 1).insert("a", 2).each(8)
	})
	if n < 1000 {
		t.Errorf("only %d orders", n)
	}
}

// P10.4, P10.5: one that is not stepped to its end, wherever it rests, is in nobody's way.
func TestAllOrdersBesideOneThatRests(t *testing.T) {
	for _, free := range []int{1, 2, 3, 4} {
		for rest := range 14 {
			for _, key := range []string{"a", "b"} {
				inAllOrders(func() *world {
					return newWorld(t, free).begin(insert, key, 2, rest).whole().insert("a", 2).insert("a", 1).each(7)
				})
			}
		}
	}
}

// someKey is one of so many.
func someKey(r *rand.Rand, of int) string { return "key" + strconv.Itoa(r.Intn(of)) }

// someKind is an Insert, mostly.
func someKind(r *rand.Rand) int { return min(insert, r.Intn(6)) }

// someHeight is a low one, mostly.
func someHeight(r *rand.Rand) int {
	if r.Intn(5) == 0 {
		return 1 + r.Intn(8)
	}
	return 1 + r.Intn(3)
}

// P10.2 to P10.5, Words: operations of all sorts, begun and stepped at random, some of them left where they are.
func TestAtRandom(t *testing.T) {
	r := rand.New(rand.NewSource(10))
	for range 8000 {
		w := newWorld(t, r.Intn(14))
		of, many, burst := 1+r.Intn(6), 1+r.Intn(12), 1+r.Intn(12)
		for len(w.ops) < many || len(w.left()) > 0 {
			left := w.left()
			if len(w.ops) < many && (len(left) == 0 || r.Intn(4) == 0) {
				most := always
				if r.Intn(8) == 0 {
					most = r.Intn(24)
				}
				w.begin(someKind(r), someKey(r, of), someHeight(r), most)
				continue
			}
			w.stepOn(left[r.Intn(len(left))], 1+r.Intn(burst))
		}
		w.ends()
	}
}

// P10.3, P10.4, Words: all are begun at a time and come down together, so that they meet on each level.
func TestTogetherAtRandom(t *testing.T) {
	r := rand.New(rand.NewSource(1010))
	for range 3000 {
		w := newWorld(t, 4+r.Intn(40))
		of := 1 + r.Intn(8)
		for range 2 + r.Intn(7) {
			w.begin(someKind(r), someKey(r, of), 1+r.Intn(8), always)
		}
		w.each(r.Intn(9))
		for left := w.left(); len(left) > 0; left = w.left() {
			w.step(left[r.Intn(len(left))])
		}
		w.ends()
	}
}

// P10.3, P10.5, Words: many operations under way at a time, over many keys; each key's Inserts agree.
func TestManyAtRandom(t *testing.T) {
	r := rand.New(rand.NewSource(99))
	for _, burst := range []int{1, 5, 40} {
		w := newWorld(t, 8*60)
		for range 300 {
			w.begin(someKind(r), someKey(r, 60), 1+r.Intn(8), always)
			for range r.Intn(12) {
				if left := w.left(); len(left) > 0 {
					w.stepOn(left[r.Intn(len(left))], 1+r.Intn(burst))
				}
			}
		}
		for left := w.left(); len(left) > 0; left = w.left() {
			w.step(left[r.Intn(len(left))])
		}
		names, put, used := map[string]int{}, 0, heads
		for _, b := range w.ops {
			if b.kind == insert && !b.got.had {
				names[b.key] = b.got.ref
				put++
				used += b.height
			}
		}
		if len(names) != put || len(w.keys) != put || w.a.Used() != used {
			t.Errorf("%d Inserts have put %d keys in: %q, %d cells used", put, len(names), w.keys, w.a.Used())
		}
		for i, b := range w.ops {
			if (b.kind == insert || b.got.had) && b.got.ref != names[b.got.key] || b.got.code != api.OK || b.kind != next && b.got.key != b.key && b.got != (answer{}) {
				t.Errorf("operation %d on %s, which names %d: %v", i, b.key, names[b.key], b.got)
			}
		}
		for _, key := range w.keys {
			finds(t, "Lookup", w.l.Lookup(key), key, names[key])
			finds(t, "Next", w.l.Next(key), key, names[key])
		}
	}
}

// spoiled steps an operation up to its end, but whenever its next step would be its last one, another key is put in right beside it first, so many times: how many steps it takes. What a step would do is asked of another list, to which all was done that was done to this one.
func spoiled(t *testing.T, ahead, puts, kind int, above bool) int {
	const put, step = 1, 2
	var deeds []int
	other := func(i int) string {
		if above {
			return "w" + strconv.Itoa(900-i)
		}
		return "u" + strconv.Itoa(100+i)
	}
	play := func() (bool, int) {
		w := newWorld(t, 8*(ahead+puts+1))
		for i := range ahead {
			inserts(t, w.l, other(i), i, 8)
		}
		w.begin(kind, "v", 8, always)
		o := w.ops[0].op
		done, m, steps := false, 0, 0
		for _, deed := range deeds {
			if deed == put {
				inserts(t, w.l, other(ahead+m), m, 8)
				m++
				continue
			}
			done = o.Step()
			steps++
		}
		return done, steps
	}
	for m := 0; ; {
		deeds = append(deeds, step)
		done, steps := play()
		if most := (8*m + 1) * (ahead + m + 32); steps > most {
			t.Fatalf("%d keys, %d of %d put in: not done within %d steps", ahead, m, puts, most)
		}
		if done && m == puts {
			return steps
		}
		if done {
			deeds[len(deeds)-1] = put
			m++
		}
	}
}

// Words: how many steps an operation takes that is disturbed as late as can be, again and again.
func TestStepsOfOneThatIsSpoiled(t *testing.T) {
	for _, ahead := range []int{0, 1, 2, 10} {
		for _, puts := range []int{0, 1, 2, 3, 10} {
			for _, kind := range []int{lookup, next, insert} {
				for _, above := range []bool{false, true} {
					if steps := spoiled(t, ahead, puts, kind, above); puts == 0 && steps > 32+2*ahead {
						t.Errorf("%d keys, %d put in, kind %d: %d steps", ahead, puts, kind, steps)
					}
				}
			}
		}
	}
}

// Words: whenever an Insert has taken cells, another one comes first and builds on them, and some become free again: how many steps it takes then.
func TestStepsWithoutCellsOfItsOwn(t *testing.T) {
	for every := 1; every <= 9; every++ {
		for height := 1; height <= 8; height++ {
			const others = 40
			l, a := room(t, others*height+8)
			var mine []int
			for a.Used() < heads+others*height {
				cell, _ := a.Alloc()
				mine = append(mine, cell)
			}
			o := l.Insert("victim", 1, 8)
			m, steps := 0, 1
			for ; !o.Step(); steps++ {
				if steps >= (8*m+1)*(m+32) {
					t.Fatalf("%d Inserts: not done in %d steps", m, steps)
				}
				if steps%every != 0 || len(mine) < height || slices.Contains(l.Keys(), "victim") {
					continue
				}
				inserts(t, l, "u"+strconv.Itoa(100+m), 0, height)
				m++
				for range height {
					a.Free(mine[0])
					mine = mine[1:]
				}
			}
			answers(t, "the victim", o, "victim", 1, false, api.OK)
		}
	}
}

// What towers are for: with the best heights a key is found by few steps, in whatever order the keys were put in, and if all were put in beside one another.
func TestTowersAreShortWays(t *testing.T) {
	const n = 255
	for _, how := range []string{"rising", "falling", "neither", "together"} {
		l, _ := room(t, 2*n)
		keys := manyKeys(n, how)
		var ops []*skip.Op
		for _, key := range keys {
			at, _ := strconv.Atoi(key[1:])
			o := l.Insert(key, at, 1+bits.TrailingZeros(uint(at-999)))
			if ops = append(ops, o); how != "together" {
				run(t, o)
			}
		}
		for left := true; left; {
			left = false
			for _, o := range ops {
				left = !o.Step() || left
			}
		}
		for at := 1000; at < 1000+n; at++ {
			key := "k" + strconv.Itoa(at)
			got, steps := run(t, l.Lookup(key))
			if got != (answer{key, at, true, api.OK}) || steps > 2*8 {
				t.Errorf("%s: Lookup of %s: %v in %d steps", how, key, got, steps)
			}
			if _, steps = run(t, l.Next(key+"\x00")); steps > 2*8 {
				t.Errorf("%s: Next behind %s: %d steps", how, key, steps)
			}
		}
	}
}

// R4: the same steps, the same answers, cell by cell.
func TestTheSameStepsAreAnsweredTheSame(t *testing.T) {
	play := func() ([]answer, []cell, []string) {
		r := rand.New(rand.NewSource(4))
		w := newWorld(t, 30)
		for range 40 {
			w.begin(someKind(r), someKey(r, 14), someHeight(r), always)
		}
		for left := w.left(); len(left) > 0; left = w.left() {
			w.step(left[r.Intn(len(left))])
		}
		var all []answer
		for _, b := range w.ops {
			all = append(all, b.got)
		}
		return all, shown(w.a, heads+30), w.keys
	}
	answered, has, keys := play()
	for range 5 {
		again, hasAgain, keysAgain := play()
		if !slices.Equal(answered, again) || !slices.Equal(has, hasAgain) || !slices.Equal(keys, keysAgain) {
			t.Fatal("the same steps are answered otherwise")
		}
	}
}
