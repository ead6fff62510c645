package hash_test

import (
	"fmt"
	"math/rand"
	"slices"
	"strconv"
	"testing"

	"varve/api"
	"varve/cells"
	"varve/hash"
)

// begun is an operation that runs beside others, and what was seen of it.
type begun struct {
	op          *hash.Op
	insert      bool
	key         string
	ref         int
	most        int // steps that it gets, if it is not done with fewer
	had         int // keys of the table when it was begun
	steps       int
	first, last int // when it was stepped
	done        bool
	got         answer
}

// world is a table, operations on it, and a clock that goes on with each step.
type world struct {
	t       *testing.T
	h       *hash.Table
	a       *cells.Arena
	buckets int
	free    int // cells that keys may take
	ops     []*begun
	now     int
	picks   []int    // which operation was stepped when
	keys    []string // that are in
}

const always = 1 << 30

func newWorld(t *testing.T, buckets, free int) *world {
	t.Helper()
	h, a := room(t, buckets, free)
	return &world{t: t, h: h, a: a, buckets: buckets, free: free}
}

func (w *world) insert(key string, ref int) *world { return w.begin(true, key, ref, always) }

func (w *world) lookup(key string) *world { return w.begin(false, key, 0, always) }

func (w *world) begin(insert bool, key string, ref, most int) *world {
	b := &begun{insert: insert, key: key, ref: ref, most: most, had: len(w.keys)}
	if b.op = w.h.Lookup(key); insert {
		b.op = w.h.Insert(key, ref)
	}
	w.ops = append(w.ops, b)
	return w
}

func (w *world) String() string {
	s := fmt.Sprintf("%d buckets, %d free cells, stepped %v:", w.buckets, w.free, w.picks)
	for _, b := range w.ops {
		s += fmt.Sprintf(" {insert %t %q %d: %d steps, done %t, %v}", b.insert, b.key, b.ref, b.steps, b.done, b.got)
	}
	return s
}

// left are the operations that may be stepped on.
func (w *world) left() []int {
	var l []int
	for i, b := range w.ops {
		if !b.done && b.steps < b.most {
			l = append(l, i)
		}
	}
	return l
}

// step steps an operation, and holds what can be seen against what was promised.
func (w *world) step(i int) {
	w.t.Helper()
	b := w.ops[i]
	w.now++
	w.picks = append(w.picks, i)
	if b.steps == 0 {
		b.first = w.now
	}
	if got := told(b.op); got != notDone {
		w.t.Fatalf("Ref of %d, which is not done: %v: %v", i, got, w)
	}
	before := shown(w.a, w.buckets+w.free)
	steps, used := w.a.Steps(), w.a.Used()
	b.done = b.op.Step()
	touched := w.a.Steps() - steps
	if w.a.Used() != used {
		touched++
	}
	b.steps++
	b.last = w.now
	b.got = told(b.op)
	if n := changed(before, shown(w.a, w.buckets+w.free)); touched > 1 || n > 1 {
		w.t.Fatalf("a step of %d touched %d cells, and changed %d: %v", i, touched, n, w)
	}
	w.counts(i)
}

// counts: keys, cells and steps of the operation are no more and no fewer than they may be.
func (w *world) counts(i int) {
	w.t.Helper()
	keys := w.h.Keys()
	for _, key := range w.keys {
		if !slices.Contains(keys, key) {
			w.t.Fatalf("%q has gone: %v", key, w)
		}
	}
	w.keys = keys
	holding := 0
	for _, b := range w.ops {
		if b.insert && !b.done && b.steps > 0 {
			holding++
		}
	}
	if n := w.a.Used() - w.buckets - len(keys); n < 0 || n > holding {
		w.t.Fatalf("%d Inserts hold %d cells: %v", holding, n, w)
	}
	b := w.ops[i]
	most := 8 + 4*b.had + 4*(len(keys)-b.had)
	if b.steps > most || b.steps == most && !b.done {
		w.t.Fatalf("%d of %d and %d keys is not done within %d steps: %v", i, b.had, len(keys)-b.had, most, w)
	}
}

// ends: all that was answered is as if each operation was done at one moment, and the keys that are in are told.
func (w *world) ends() {
	w.t.Helper()
	if !w.order(0, map[string]int{}, map[string]bool{}) {
		w.t.Fatalf("no order of the operations answers this: keys %q, %v", w.keys, w)
	}
}

// order: is there one of all that were stepped and are not among those that are done, each done in what the ones ahead of it have left? One that is not done yet may come, or not.
func (w *world) order(mask int, has map[string]int, seen map[string]bool) bool {
	here := fmt.Sprint(mask, has)
	if seen[here] {
		return false
	}
	seen[here] = true
	if w.allDone(mask) && len(has) == len(w.keys) {
		return true
	}
	for i, b := range w.ops {
		if mask&(1<<i) != 0 || b.steps == 0 || !w.mayBeNext(mask, i) {
			continue
		}
		ref, was := has[b.key]
		got := plainly(b.insert, b.ref, ref, was, len(has) == w.free)
		if b.done && got != b.got {
			continue
		}
		puts := b.insert && !was && got.code == api.OK
		if puts {
			has[b.key] = b.ref
		}
		if w.order(mask|1<<i, has, seen) {
			return true
		}
		if puts {
			delete(has, b.key)
		}
	}
	return false
}

// plainly is what an operation is answered that is done at one moment.
func plainly(insert bool, own, ref int, was, full bool) answer {
	switch {
	case was:
		return answer{ref, true, api.OK}
	case !insert:
		return answer{}
	case full:
		return answer{code: api.ErrCellsFull}
	}
	return answer{own, false, api.OK}
}

func (w *world) allDone(mask int) bool {
	for i, b := range w.ops {
		if b.done && mask&(1<<i) == 0 {
			return false
		}
	}
	return true
}

// mayBeNext: all that were done ahead of its first step come ahead of it.
func (w *world) mayBeNext(mask, i int) bool {
	for j, b := range w.ops {
		if mask&(1<<j) == 0 && b.done && b.last < w.ops[i].first {
			return false
		}
	}
	return true
}

// inAllOrders steps the operations of worlds like this one in all orders that there are: how many.
func inAllOrders(build func() *world) int {
	var picks []int
	for n := 1; ; n++ {
		w := build()
		var ways []int
		for left := w.left(); len(left) > 0; left = w.left() {
			if len(picks) == len(ways) {
				picks = append(picks, 0)
			}
			w.step(left[picks[len(ways)]])
			ways = append(ways, len(left))
		}
		w.ends()
		for len(picks) > 0 && picks[len(picks)-1] == ways[len(picks)-1]-1 {
			picks = picks[:len(picks)-1]
		}
		if len(picks) == 0 {
			return n
		}
		picks[len(picks)-1]++
	}
}

// P9.3, P9.4, P9.5, Words: two and three operations, stepped in all orders, with as many free cells as there may be use for, and with fewer.
func TestAllOrders(t *testing.T) {
	for _, buckets := range []int{1, 2} {
		for free := range 4 {
			build := func() *world { return newWorld(t, buckets, free) }
			for _, begins := range []func(w *world) *world{
				func(w *world) *world { return w.insert("a", 1).insert("a", 2) },
				func(w *world) *world { return w.insert("a", 1).insert("b", 2) },
				func(w *world) *world { return w.insert("a", 1).lookup("a") },
				func(w *world) *world { return w.insert("a", 1).lookup("b") },
				func(w *world) *world { return w.insert("a", 1).insert("a", 2).lookup("a") },
				func(w *world) *world { return w.insert("a", 1).insert("b", 2).lookup("a") },
				func(w *world) *world { return w.insert("a", 1).lookup("a").lookup("a") },
				func(w *world) *world { return w.insert("a", 1).insert("a", 2).insert("b", 3) },
			} {
				inAllOrders(func() *world { return begins(build()) })
			}
		}
	}
}

// P9.3: three Inserts of one key, in all orders.
func TestAllOrdersOfThreeInsertsOfAKey(t *testing.T) {
	n := inAllOrders(func() *world {
		return newWorld(t, 1, 3).insert("a", 1).insert("a", 2).insert("a", 3)
	})
	if n < 1000 {
		t.Errorf("only %d orders", n)
	}
}

// P9.4, P9.5: one that is not stepped to its end, wherever it rests, is in nobody's way.
func TestAllOrdersBesideOneThatRests(t *testing.T) {
	for free := 1; free < 3; free++ {
		for rest := range 5 {
			for _, key := range []string{"a", "b"} {
				inAllOrders(func() *world {
					return newWorld(t, 1, free).begin(true, key, 9, rest).insert("a", 1).insert("a", 2)
				})
			}
		}
	}
}

// someKey is one of so many.
func someKey(r *rand.Rand, of int) string { return "key" + strconv.Itoa(r.Intn(of)) }

// P9.2 to P9.5, Words: operations of all sorts, begun and stepped at random, some of them left where they are.
func TestAtRandom(t *testing.T) {
	r := rand.New(rand.NewSource(9))
	for range 6000 {
		w := newWorld(t, 1+r.Intn(3), r.Intn(7))
		of, many := 1+r.Intn(6), 1+r.Intn(14)
		for len(w.ops) < many || len(w.left()) > 0 {
			left := w.left()
			if len(w.ops) < many && (len(left) == 0 || r.Intn(4) == 0) {
				most := always
				if r.Intn(8) == 0 {
					most = r.Intn(8)
				}
				w.begin(r.Intn(3) > 0, someKey(r, of), len(w.ops)+100, most)
				continue
			}
			i := left[r.Intn(len(left))]
			for range 1 + r.Intn(3) {
				if !w.ops[i].done && w.ops[i].steps < w.ops[i].most {
					w.step(i)
				}
			}
		}
		w.ends()
	}
}

// P9.3, P9.5, Words: many operations under way at a time, over many keys; each key's Inserts agree.
func TestManyAtRandom(t *testing.T) {
	r := rand.New(rand.NewSource(99))
	for _, buckets := range []int{1, 4, 64} {
		w := newWorld(t, buckets, 80)
		for range 400 {
			w.begin(r.Intn(3) > 0, someKey(r, 60), len(w.ops)+1, always)
			for range r.Intn(12) {
				if left := w.left(); len(left) > 0 {
					w.step(left[r.Intn(len(left))])
				}
			}
		}
		for left := w.left(); len(left) > 0; left = w.left() {
			w.step(left[r.Intn(len(left))])
		}
		names, put := map[string]int{}, 0
		for _, b := range w.ops {
			if b.insert && !b.got.had {
				names[b.key] = b.got.ref
				put++
			}
		}
		if len(names) != put || len(w.keys) != put || w.a.Used() != buckets+put {
			t.Errorf("%d Inserts have put %d keys in: %q, %d cells used", put, len(names), w.keys, w.a.Used())
		}
		for i, b := range w.ops {
			if (b.insert || b.got.had) && b.got.ref != names[b.key] || b.got.code != api.OK {
				t.Errorf("operation %d on %s, which names %d: %v", i, b.key, names[b.key], b.got)
			}
		}
	}
}

// Words: whenever an Insert has taken the last cell, another one comes first, and a cell becomes free again: how many steps it takes then.
func TestStepsWithoutACellOfItsOwn(t *testing.T) {
	for every := 1; every <= 4; every++ {
		for ahead := range 3 {
			const foreign = 40
			h, a := room(t, 1, foreign+ahead)
			keys := together(h, 0, foreign+ahead)
			for i := range ahead {
				inserts(t, h, keys[i], 0)
			}
			var mine []int
			for range foreign - 1 {
				cell, _ := a.Alloc()
				mine = append(mine, cell)
			}
			o := h.Insert("victim", 1)
			m, steps := 0, 1
			for ; !o.Step(); steps++ {
				if steps >= 8+4*ahead+4*m {
					t.Fatalf("%d keys put in: not done in %d steps", m, steps)
				}
				if steps%every != ahead%every || len(mine) == 0 {
					continue
				}
				if got, _ := run(t, h.Insert(keys[ahead+m], 0)); got.code == api.OK {
					m++
				}
				a.Free(mine[0])
				mine = mine[1:]
			}
			if steps > 8+4*ahead+4*m {
				t.Errorf("%d keys put in: %d steps", m, steps)
			}
		}
	}
}

// spoiled steps an operation up to its end, but whenever its next step would be its last one, another key is put in first, so many times: how many steps it takes. What a step would do is asked of another table, to which all was done that was done to this one.
func spoiled(t *testing.T, ahead, puts int, insert bool) int {
	const put, step = 1, 2
	var deeds []int
	play := func() (bool, int) {
		h, _ := room(t, 1, ahead+puts+1)
		keys := together(h, 0, ahead+puts)
		for i := range ahead {
			inserts(t, h, keys[i], i)
		}
		o := h.Lookup("victim")
		if insert {
			o = h.Insert("victim", 1)
		}
		done, m, steps := false, 0, 0
		for _, deed := range deeds {
			if deed == put {
				inserts(t, h, keys[ahead+m], m)
				m++
				continue
			}
			done = o.Step()
			steps++
		}
		return done, steps
	}
	for m := 0; ; {
		deeds = append(deeds, step)
		done, steps := play()
		if most := 8 + 4*ahead + 4*m; steps > most {
			t.Fatalf("%d keys, %d of %d put in: not done within %d steps", ahead, m, puts, most)
		}
		if done && m == puts {
			return steps
		}
		if done {
			deeds[len(deeds)-1] = put
			m++
		}
	}
}

// Words: how many steps an operation takes that is disturbed as late as can be, again and again.
func TestStepsOfOneThatIsSpoiled(t *testing.T) {
	for _, ahead := range []int{0, 1, 2, 10, 30} {
		for _, puts := range []int{0, 1, 2, 3, 10, 30} {
			for _, insert := range []bool{true, false} {
				if steps := spoiled(t, ahead, puts, insert); steps > 8+4*ahead+4*puts {
					t.Errorf("%d keys, %d put in, insert %t: %d steps", ahead, puts, insert, steps)
				}
			}
		}
	}
}

// R4: the same steps, the same answers, cell by cell.
func TestTheSameStepsAreAnsweredTheSame(t *testing.T) {
	play := func() ([]answer, []cell, []string) {
		r := rand.New(rand.NewSource(4))
		w := newWorld(t, 2, 12)
		for range 40 {
			w.begin(r.Intn(3) > 0, someKey(r, 14), len(w.ops), always)
		}
		for left := w.left(); len(left) > 0; left = w.left() {
			w.step(left[r.Intn(len(left))])
		}
		var all []answer
		for _, b := range w.ops {
			all = append(all, b.got)
		}
		return all, shown(w.a, 14), w.keys
	}
	answered, has, keys := play()
	for range 5 {
		again, hasAgain, keysAgain := play()
		if !slices.Equal(answered, again) || !slices.Equal(has, hasAgain) || !slices.Equal(keys, keysAgain) {
			t.Fatal("the same steps are answered otherwise")
		}
	}
}
