package lock_test

import (
	"cmp"
	"math/rand"
	"slices"
	"testing"

	"varve/api"
	"varve/lock"
)

// held is what a lock word says, told plainly: a list of who reads, and who writes.
type held struct {
	reads  [16]bool
	writes [16]bool // at most one
}

// word: the sum that the section Words has.
func (h held) word() uint64 {
	sum, power := uint64(0), uint64(1)
	for w := range 16 {
		if h.reads[w] {
			sum += power
		}
		power *= 2
		if h.writes[w] {
			sum += uint64(w+1) * 4294967296
		}
	}
	return sum
}

func (h held) readers() []int {
	var list []int
	for w := range 16 {
		if h.reads[w] {
			list = append(list, w)
		}
	}
	return list
}

func (h held) writer() int {
	return slices.Index(h.writes[:], true)
}

func (h held) against(worker int, write bool) []int {
	var list []int
	for other := range 16 {
		if other != worker && (h.writes[other] || write && h.reads[other]) {
			list = append(list, other)
		}
	}
	return list
}

// asPlain holds all calls on a word by a worker against what is told plainly.
func asPlain(t *testing.T, h held, worker int) {
	t.Helper()
	w := h.word()
	checkReaders(t, w, h.readers()...)
	checkWriter(t, w, h.writer())
	checkAgainst(t, w, worker, false, h.against(worker, false)...)
	checkAgainst(t, w, worker, true, h.against(worker, true)...)
	reading, writing, left := h, h, h
	reading.reads[worker] = true
	writing.writes[worker] = true
	left.reads[worker], left.writes[worker] = false, false
	if len(h.against(worker, false)) == 0 {
		checkRead(t, w, worker, reading.word())
	} else {
		mayNotRead(t, w, worker)
	}
	if len(h.against(worker, true)) == 0 {
		checkWrite(t, w, worker, writing.word())
	} else {
		mayNotWrite(t, w, worker)
	}
	checkLeave(t, w, worker, left.word())
}

// P13.1 to P13.3: all words of the workers 0, 1, 7 and 15, by each worker.
func TestWordsOfAFewAsToldPlainly(t *testing.T) {
	few := []int{0, 1, 7, 15}
	for readers := range 1 << len(few) {
		for writer := range len(few) + 1 {
			var h held
			for i, w := range few {
				h.reads[w] = readers>>i&1 == 1
				h.writes[w] = i == writer
			}
			for worker := range 16 {
				asPlain(t, h, worker)
			}
		}
	}
}

// P13.1 to P13.3: words of all sorts.
func TestWordsAsToldPlainly(t *testing.T) {
	r := rand.New(rand.NewSource(13))
	for range 60000 {
		var h held
		for range r.Intn(1 + r.Intn(20)) {
			h.reads[r.Intn(16)] = true
		}
		if r.Intn(2) == 0 {
			h.writes[r.Intn(16)] = true
		}
		asPlain(t, h, r.Intn(16))
	}
}

// P13.1, P13.2: of numbers with each bit as it comes, those that are words are told as such, and no others.
func TestNumbersThatAreWords(t *testing.T) {
	r := rand.New(rand.NewSource(131))
	right := 0
	for range 200000 {
		w := uint64(r.Intn(1<<16)) + uint64(r.Intn(20))<<32
		for range r.Intn(3) {
			w ^= 1 << r.Intn(64)
		}
		isWord := w%65536 == w%4294967296 && w/4294967296 <= 16
		_, e := lock.Leave(w, 3)
		if isWord != (e == api.OK) || !isWord && e != api.ErrLockForm {
			t.Fatalf("Leave(%x, 3): %v", w, e)
		}
		if !isWord {
			refused(t, w, r.Intn(16), api.ErrLockForm)
			checkReaders(t, w)
			checkWriter(t, w, -1)
			continue
		}
		right++
	}
	if right < 20000 || right > 180000 {
		t.Errorf("%d words among the numbers", right)
	}
}

// P13.7: workers that come and go in whatever order: who writes is alone from the moment it may, the word hangs on who is there alone, and who has left is in nobody's way.
func TestComingAndGoing(t *testing.T) {
	r := rand.New(rand.NewSource(137))
	for range 2000 {
		var h held
		w := uint64(0)
		for range 60 {
			worker := r.Intn(2 + r.Intn(15))
			var ok bool
			now := w
			switch r.Intn(4) {
			case 0:
				now, ok, _ = lock.Read(w, worker)
				h.reads[worker] = h.reads[worker] || ok
			case 1:
				now, ok, _ = lock.Write(w, worker)
				h.writes[worker] = h.writes[worker] || ok
				if ok && len(h.against(worker, true)) > 0 {
					t.Fatalf("%d may write %x", worker, w)
				}
			default:
				now, _ = lock.Leave(w, worker)
				ok = true
				h.reads[worker], h.writes[worker] = false, false
				for other := range 16 {
					if slices.Contains(lock.Against(now, other, true), worker) {
						t.Fatalf("%d has left %x", worker, w)
					}
				}
			}
			if ok {
				w = now
			}
			if w != h.word() {
				t.Fatalf("%x, not %x", w, h.word())
			}
		}
	}
}

// waits is a graph told plainly: who waits for whom.
type waits [16][16]bool

func (p *waits) wait(worker int, others []int) {
	p[worker] = [16]bool{}
	for _, other := range others {
		p[worker][other] = other != worker
	}
}

// cycle goes through all paths of different workers, the shorter ones first, of one length by the workers' numbers, and takes the first that leads back.
func (p *waits) cycle(worker int) []int {
	for length := 2; length <= 16; length++ {
		if c := p.goOn([]int{worker}, length); c != nil {
			return c
		}
	}
	return nil
}

func (p *waits) goOn(path []int, length int) []int {
	last := path[len(path)-1]
	if len(path) == length {
		if p[last][path[0]] {
			return slices.Clone(path)
		}
		return nil
	}
	for next := range 16 {
		if p[last][next] && !slices.Contains(path, next) {
			if c := p.goOn(append(path, next), length); c != nil {
				return c
			}
		}
	}
	return nil
}

// P13.5: all graphs of four workers.
func TestCyclesOfAllGraphsOfFour(t *testing.T) {
	few := []int{0, 4, 9, 15}
	for edges := range 1 << 12 {
		g := lock.NewGraph()
		var p waits
		bit := 0
		for _, worker := range few {
			var others []int
			for _, other := range few {
				if other == worker {
					continue
				}
				if edges>>bit&1 == 1 {
					others = append(others, other)
				}
				bit++
			}
			wait(t, g, worker, others...)
			p.wait(worker, others)
		}
		for _, worker := range few {
			checkCycle(t, g, worker, p.cycle(worker)...)
		}
	}
}

// someOthers: now and then one of them is no worker.
func someOthers(r *rand.Rand, size, most int) ([]int, bool) {
	others, right := make([]int, r.Intn(most+1)), true
	for i := range others {
		others[i] = r.Intn(size)
		if r.Intn(60) == 0 {
			others[i], right = noWorkers[r.Intn(len(noWorkers))], false
		}
	}
	return others, right
}

// P13.4, P13.5, P13.8: graphs of few and of many workers as they change, right and wrong calls among one another.
func TestGraphsAsToldPlainly(t *testing.T) {
	r := rand.New(rand.NewSource(134))
	told := [17]int{} // how many cycles of each length there were
	for range 300 {
		g := lock.NewGraph()
		var p waits
		size, most := 2+r.Intn(15), 1+r.Intn(3)
		for range 30 {
			worker := r.Intn(size)
			others, right := someOthers(r, size, most)
			e := g.Wait(worker, others...)
			if right != (e == api.OK) || !right && e != api.ErrArg {
				t.Fatalf("Wait(%d, %v): %v", worker, others, e)
			}
			if right {
				p.wait(worker, others)
			}
			asked := r.Intn(size)
			want := p.cycle(asked)
			checkCycle(t, g, asked, want...)
			told[len(want)]++
		}
		for worker := range 16 {
			checkCycle(t, g, worker, p.cycle(worker)...)
		}
		allGo(t, r, g, size)
	}
	if slices.Contains(told[2:8], 0) || told[0] == 0 {
		t.Errorf("cycles of each length: %v", told)
	}
}

// allGo lets one of each cycle go, until there are none; who has gone is in none any more.
func allGo(t *testing.T, r *rand.Rand, g *lock.Graph, size int) {
	t.Helper()
	gone := [16]bool{}
	for worker := 0; worker < size; {
		cycle, ok := g.Cycle(worker)
		if !ok {
			worker++
			continue
		}
		for _, member := range cycle {
			if gone[member] {
				t.Fatalf("%d has gone, and is in %v", member, cycle)
			}
		}
		goes := cycle[r.Intn(len(cycle))]
		wait(t, g, goes)
		gone[goes] = true
	}
	noCycles(t, g)
}

// P13.5: one cycle through all sixteen, in whatever order, with waits across it that make others, of each length.
func TestLongCyclesAsToldPlainly(t *testing.T) {
	r := rand.New(rand.NewSource(135))
	for range 400 {
		g := lock.NewGraph()
		var p waits
		order := r.Perm(16)
		for i, worker := range order {
			others := []int{order[(i+1)%16]}
			if r.Intn(6) == 0 {
				others = append(others, r.Intn(16))
			}
			wait(t, g, worker, others...)
			p.wait(worker, others)
		}
		for worker := range 16 {
			checkCycle(t, g, worker, p.cycle(worker)...)
		}
	}
}

// P13.6: cycles and ages of all sorts: the first one when they stand by falling ages, then by rising numbers.
func TestVictimAsToldPlainly(t *testing.T) {
	r := rand.New(rand.NewSource(136))
	for range 50000 {
		cycle := r.Perm(16)[:1+r.Intn(16)]
		ages := make([]int, r.Intn(20))
		for i := range ages {
			ages[i] = r.Intn(7) - 3
		}
		age := func(worker int) int { return slices.Concat(ages, make([]int, 16))[worker] }
		byAge := slices.Clone(cycle)
		slices.SortFunc(byAge, func(a, b int) int { return cmp.Or(age(b)-age(a), a-b) })
		checkVictim(t, cycle, ages, byAge[0])
		cycle[r.Intn(len(cycle))] = noWorkers[r.Intn(len(noWorkers))]
		noVictim(t, cycle, ages)
	}
}
