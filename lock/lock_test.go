package lock_test

import (
	"math"
	"slices"
	"testing"

	"varve/api"
	"varve/lock"
)

const allRead uint64 = 1<<16 - 1

// noWorkers are numbers that are none.
var noWorkers = []int{-1, -2, -16, math.MinInt, math.MinInt + 3, 16, 17, 31, 32, 64, 65, 1 << 32, 1<<32 + 1, math.MaxInt}

// writes is the part of a lock word that says who the writer is.
func writes(worker int) uint64 { return uint64(worker+1) << 32 }

func reads(workers ...int) uint64 {
	w := uint64(0)
	for _, worker := range workers {
		w |= 1 << worker
	}
	return w
}

// noWords are numbers that are no lock words.
func noWords() []uint64 {
	list := []uint64{
		17 << 32, 17<<32 + 1, 18 << 32, 24 << 32, 31 << 32, 31<<32 + 10, // a writer's part above 16
		1<<32 - 1, 1<<31 + writes(3), 1<<16 + 1<<31, math.MaxUint64, math.MaxUint64 - 1<<63, 1<<63 + 1, 1<<63 + writes(0),
	}
	for bit := 16; bit <= 31; bit++ {
		list = append(list, 1<<bit, 1<<bit+2, 1<<bit+writes(1), 1<<bit+writes(15)+allRead)
	}
	for bit := 37; bit <= 63; bit++ {
		list = append(list, 1<<bit, 1<<bit+2, 1<<bit+writes(1), 1<<bit+writes(15)+allRead)
	}
	return list
}

func checkReaders(t *testing.T, w uint64, want ...int) {
	t.Helper()
	if got := lock.Readers(w); !slices.Equal(got, want) {
		t.Errorf("Readers(%x): %v, not %v", w, got, want)
	}
}

// checkWriter: below 0 there is none.
func checkWriter(t *testing.T, w uint64, want int) {
	t.Helper()
	if got, ok := lock.Writer(w); got != max(want, 0) || ok != (want >= 0) {
		t.Errorf("Writer(%x): %d %v, not %d", w, got, ok, want)
	}
}

func checkRead(t *testing.T, w uint64, worker int, want uint64) {
	t.Helper()
	if now, ok, e := lock.Read(w, worker); now != want || !ok || e != api.OK {
		t.Errorf("Read(%x, %d): %x %v %v, not %x", w, worker, now, ok, e, want)
	}
}

func checkWrite(t *testing.T, w uint64, worker int, want uint64) {
	t.Helper()
	if now, ok, e := lock.Write(w, worker); now != want || !ok || e != api.OK {
		t.Errorf("Write(%x, %d): %x %v %v, not %x", w, worker, now, ok, e, want)
	}
}

func checkLeave(t *testing.T, w uint64, worker int, want uint64) {
	t.Helper()
	if now, e := lock.Leave(w, worker); now != want || e != api.OK {
		t.Errorf("Leave(%x, %d): %x %v, not %x", w, worker, now, e, want)
	}
}

// mayNotRead, mayNotWrite: another one is in the way, which is no error.
func mayNotRead(t *testing.T, w uint64, worker int) {
	t.Helper()
	if now, ok, e := lock.Read(w, worker); now != 0 || ok || e != api.OK {
		t.Errorf("Read(%x, %d): %x %v %v, though another one is in the way", w, worker, now, ok, e)
	}
}

func mayNotWrite(t *testing.T, w uint64, worker int) {
	t.Helper()
	if now, ok, e := lock.Write(w, worker); now != 0 || ok || e != api.OK {
		t.Errorf("Write(%x, %d): %x %v %v, though another one is in the way", w, worker, now, ok, e)
	}
}

// refused: the three calls that ask by a worker answer that error, and nothing beside it; nobody is told to be in the way.
func refused(t *testing.T, w uint64, worker int, want api.Errno) {
	t.Helper()
	if now, ok, e := lock.Read(w, worker); now != 0 || ok || e != want {
		t.Errorf("Read(%x, %d): %x %v %v, not %v", w, worker, now, ok, e, want)
	}
	if now, ok, e := lock.Write(w, worker); now != 0 || ok || e != want {
		t.Errorf("Write(%x, %d): %x %v %v, not %v", w, worker, now, ok, e, want)
	}
	if now, e := lock.Leave(w, worker); now != 0 || e != want {
		t.Errorf("Leave(%x, %d): %x %v, not %v", w, worker, now, e, want)
	}
	checkAgainst(t, w, worker, false)
	checkAgainst(t, w, worker, true)
}

func checkAgainst(t *testing.T, w uint64, worker int, write bool, want ...int) {
	t.Helper()
	if got := lock.Against(w, worker, write); !slices.Equal(got, want) {
		t.Errorf("Against(%x, %d, %v): %v, not %v", w, worker, write, got, want)
	}
}

func wait(t *testing.T, g *lock.Graph, worker int, others ...int) {
	t.Helper()
	if e := g.Wait(worker, others...); e != api.OK {
		t.Fatalf("Wait(%d, %v): %v", worker, others, e)
	}
}

// checkCycle: an empty one is none.
func checkCycle(t *testing.T, g *lock.Graph, worker int, want ...int) {
	t.Helper()
	if got, ok := g.Cycle(worker); ok != (len(want) > 0) || !slices.Equal(got, want) {
		t.Errorf("Cycle(%d): %v %v, not %v", worker, got, ok, want)
	}
}

// noCycles: nobody is in one but these.
func noCycles(t *testing.T, g *lock.Graph, but ...int) {
	t.Helper()
	for worker := range api.MaxWorkers {
		if !slices.Contains(but, worker) {
			checkCycle(t, g, worker)
		}
	}
}

func checkVictim(t *testing.T, cycle, ages []int, want int) {
	t.Helper()
	if got, ok := lock.Victim(cycle, ages); got != want || !ok {
		t.Errorf("Victim(%v, %v): %d %v, not %d", cycle, ages, got, ok, want)
	}
}

func noVictim(t *testing.T, cycle, ages []int) {
	t.Helper()
	if got, ok := lock.Victim(cycle, ages); got != 0 || ok {
		t.Errorf("Victim(%v, %v): %d %v, though there is none", cycle, ages, got, ok)
	}
}

func TestExamples(t *testing.T) { // P13.1 to P13.6: the chapter's table
	checkRead(t, 0, 1, 2)
	checkRead(t, 2, 3, 10)
	mayNotWrite(t, 10, 1)
	checkWrite(t, 2, 1, 0x200000002)
	checkReaders(t, 10, 1, 3)
	checkWriter(t, 0x200000002, 1)
	checkAgainst(t, 10, 1, true, 3)
	checkAgainst(t, 0x200000002, 3, false, 1)
	checkLeave(t, 0x200000002, 1, 0)
	refused(t, 1<<37, 1, api.ErrLockForm)
	refused(t, 0, 16, api.ErrArg)
	g := lock.NewGraph()
	wait(t, g, 1, 2, 3)
	wait(t, g, 2, 1)
	wait(t, g, 3, 1)
	checkCycle(t, g, 1, 1, 2)
	checkCycle(t, g, 3, 3, 1)
	checkCycle(t, g, 5)
	checkVictim(t, []int{1, 2}, []int{0, 7, 4}, 1)
	checkVictim(t, []int{1, 2}, nil, 1)
	noVictim(t, nil, []int{0, 7, 4})
}

func TestErrorsNumbers(t *testing.T) { // Errors
	if api.ErrNil != 1 || api.ErrArg != 2 || api.ErrLockForm != 130 {
		t.Error(int(api.ErrNil), int(api.ErrArg), int(api.ErrLockForm))
	}
}

func TestHolders(t *testing.T) { // P13.1
	var everybody []int
	for worker := range api.MaxWorkers {
		everybody = append(everybody, worker)
	}
	checkReaders(t, 0)
	checkWriter(t, 0, -1)
	checkReaders(t, allRead, everybody...)
	checkWriter(t, allRead, -1)
	for _, worker := range everybody {
		checkReaders(t, reads(worker), worker)
		checkWriter(t, reads(worker), -1)
		checkReaders(t, writes(worker))
		checkWriter(t, writes(worker), worker)
		checkReaders(t, reads(worker)+writes(worker), worker)
		checkWriter(t, reads(worker)+writes(worker), worker)
		checkReaders(t, allRead+writes(worker), everybody...)
		checkWriter(t, allRead+writes(worker), worker)
		checkReaders(t, allRead-reads(worker), slices.DeleteFunc(slices.Clone(everybody), func(w int) bool { return w == worker })...)
	}
	checkReaders(t, reads(0, 15)+writes(7), 0, 15)
	checkWriter(t, reads(0, 15)+writes(7), 7)
	checkWriter(t, 16<<32, 15)
}

func TestHoldersOfWhatIsNoWord(t *testing.T) { // P13.1
	for _, w := range noWords() {
		checkReaders(t, w)
		checkWriter(t, w, -1)
	}
}

func TestWordsThatAreNone(t *testing.T) { // P13.2, P13.3, Words
	for _, w := range noWords() {
		for worker := range api.MaxWorkers {
			refused(t, w, worker, api.ErrLockForm)
		}
	}
}

func TestWorkersThatAreNone(t *testing.T) { // P13.2, P13.3: ErrArg, ahead of ErrLockForm
	words := append(noWords(), 0, 2, 10, allRead, writes(0), writes(1)+reads(1), writes(15), writes(15)+allRead)
	for _, worker := range noWorkers {
		for _, w := range words {
			refused(t, w, worker, api.ErrArg)
		}
	}
}

func TestEdgeWorkers(t *testing.T) { // P13.2: 0 and 15 are workers, -1 and 16 are none
	for _, worker := range []int{0, 15} {
		checkRead(t, 0, worker, reads(worker))
		checkWrite(t, 0, worker, writes(worker))
		checkLeave(t, reads(worker)+writes(worker), worker, 0)
		refused(t, 1<<16, worker, api.ErrLockForm)
	}
	for _, worker := range []int{-1, 16, math.MinInt, math.MaxInt} {
		refused(t, 0, worker, api.ErrArg)
		refused(t, 1<<16, worker, api.ErrArg)
	}
}

func TestRead(t *testing.T) { // P13.2
	for worker := range api.MaxWorkers {
		other := (worker + 5) % api.MaxWorkers
		me := reads(worker)
		checkRead(t, 0, worker, me)
		checkRead(t, me, worker, me) // it reads already
		checkRead(t, reads(other), worker, me+reads(other))
		checkRead(t, allRead-me, worker, allRead)
		checkRead(t, allRead, worker, allRead)
		checkRead(t, writes(worker), worker, me+writes(worker)) // it is the writer itself, and stays it
		checkRead(t, me+writes(worker), worker, me+writes(worker))
		checkRead(t, reads(other)+writes(worker), worker, reads(other)+me+writes(worker))
		mayNotRead(t, writes(other), worker)
		mayNotRead(t, me+writes(other), worker) // it reads already, and the writer is in its way all the same
		mayNotRead(t, allRead+writes(other), worker)
	}
}

func TestWrite(t *testing.T) { // P13.2
	for worker := range api.MaxWorkers {
		other := (worker + 11) % api.MaxWorkers
		me := reads(worker)
		checkWrite(t, 0, worker, writes(worker))
		checkWrite(t, me, worker, me+writes(worker)) // it reads, and goes on reading
		checkWrite(t, writes(worker), worker, writes(worker))
		checkWrite(t, me+writes(worker), worker, me+writes(worker))
		mayNotWrite(t, reads(other), worker)
		mayNotWrite(t, me+reads(other), worker)
		mayNotWrite(t, writes(other), worker)
		mayNotWrite(t, reads(other)+writes(other), worker)
		mayNotWrite(t, me+writes(other), worker)
		mayNotWrite(t, reads(other)+writes(worker), worker) // it is the writer, but another one reads
		mayNotWrite(t, allRead, worker)
		mayNotWrite(t, allRead-me, worker)
	}
}

func TestLeave(t *testing.T) { // P13.2
	for worker := range api.MaxWorkers {
		other := (worker + 3) % api.MaxWorkers
		me := reads(worker)
		checkLeave(t, 0, worker, 0)
		checkLeave(t, me, worker, 0)
		checkLeave(t, writes(worker), worker, 0)
		checkLeave(t, me+writes(worker), worker, 0)
		for _, rest := range []uint64{reads(other), writes(other), reads(other) + writes(other)} {
			checkLeave(t, rest, worker, rest)
			checkLeave(t, rest+me, worker, rest)
		}
		checkLeave(t, allRead+writes(worker), worker, allRead-me)
		checkLeave(t, allRead+writes(other), worker, allRead-me+writes(other))
		checkLeave(t, allRead-me, worker, allRead-me)
	}
}

func TestAgainst(t *testing.T) { // P13.3, In the way
	for worker := range api.MaxWorkers {
		me := reads(worker)
		for _, mine := range []uint64{0, me, writes(worker), me + writes(worker)} { // nobody is in their own way
			checkAgainst(t, mine, worker, false)
			checkAgainst(t, mine, worker, true)
		}
		var others []int
		for other := range api.MaxWorkers {
			if other == worker {
				continue
			}
			others = append(others, other)
			checkAgainst(t, reads(other), worker, false)
			checkAgainst(t, reads(other), worker, true, other)
			checkAgainst(t, writes(other), worker, false, other)
			checkAgainst(t, writes(other), worker, true, other)
			checkAgainst(t, reads(other)+writes(other), worker, false, other)
			checkAgainst(t, reads(other)+writes(other), worker, true, other) // once, though it does both
			checkAgainst(t, reads(other)+me+writes(worker), worker, false)
			checkAgainst(t, reads(other)+me+writes(worker), worker, true, other)
		}
		checkAgainst(t, allRead, worker, false)
		checkAgainst(t, allRead, worker, true, others...)
		checkAgainst(t, allRead-me+writes(others[4]), worker, true, others...)
	}
	checkAgainst(t, reads(1, 9)+writes(4), 1, false, 4)
	checkAgainst(t, reads(1, 9)+writes(4), 1, true, 4, 9) // rising, the writer in its place
	checkAgainst(t, reads(1, 9)+writes(12), 2, true, 1, 9, 12)
	checkAgainst(t, reads(3, 9)+writes(0), 2, true, 0, 3, 9)
}

func TestNewGraph(t *testing.T) { // P13.4
	g := lock.NewGraph()
	if g == nil {
		t.Fatal("no graph")
	}
	noCycles(t, g)
	wait(t, g, 1, 2)
	wait(t, g, 2, 1)
	noCycles(t, lock.NewGraph()) // each is its own
	checkCycle(t, g, 1, 1, 2)
}

func TestWait(t *testing.T) { // P13.4
	g := lock.NewGraph()
	for worker := range api.MaxWorkers {
		wait(t, g, worker)         // none
		wait(t, g, worker, worker) // itself is left out
		wait(t, g, worker, worker, worker)
	}
	noCycles(t, g)
	wait(t, g, 4, 9)
	noCycles(t, g)
	wait(t, g, 9, 4, 4, 4) // the same one twice
	checkCycle(t, g, 4, 4, 9)
	checkCycle(t, g, 9, 9, 4)
	wait(t, g, 4, 15, 4, 9, 0) // itself among several
	wait(t, g, 15, 4)
	wait(t, g, 0, 4)
	checkCycle(t, g, 4, 4, 0)
	checkCycle(t, g, 9, 9, 4)
	checkCycle(t, g, 15, 15, 4)
	checkCycle(t, g, 0, 0, 4)
	noCycles(t, g, 0, 4, 9, 15)
}

func TestWaitAnew(t *testing.T) { // P13.4: for just these from now on
	g := lock.NewGraph()
	wait(t, g, 2, 1)
	wait(t, g, 3, 1)
	wait(t, g, 5, 1)
	wait(t, g, 1, 2, 3)
	checkCycle(t, g, 1, 1, 2)
	wait(t, g, 1, 3)
	checkCycle(t, g, 1, 1, 3)
	checkCycle(t, g, 2)
	wait(t, g, 1, 5)
	checkCycle(t, g, 1, 1, 5)
	checkCycle(t, g, 3)
	wait(t, g, 1, 1) // itself alone: for nobody
	noCycles(t, g)
	wait(t, g, 1, 2)
	checkCycle(t, g, 1, 1, 2)
	wait(t, g, 1)
	noCycles(t, g)
	wait(t, g, 1, 2) // those that wait for it still do
	checkCycle(t, g, 2, 2, 1)
}

func TestWaitRefuses(t *testing.T) { // P13.4: ErrArg, and nothing is changed
	g := lock.NewGraph()
	wait(t, g, 1, 2)
	wait(t, g, 2, 1)
	wait(t, g, 3, 4)
	unchanged := func() {
		t.Helper()
		checkCycle(t, g, 1, 1, 2)
		checkCycle(t, g, 2, 2, 1)
		noCycles(t, g, 1, 2)
	}
	refuses := func(worker int, others ...int) {
		t.Helper()
		if e := g.Wait(worker, others...); e != api.ErrArg {
			t.Errorf("Wait(%d, %v): %v, not ErrArg", worker, others, e)
		}
		unchanged()
	}
	for _, none := range noWorkers {
		refuses(none)
		refuses(none, 1)
		refuses(none, 1, 2)
		refuses(none, none)
		refuses(1, none)
		refuses(1, none, 2)
		refuses(2, 3, none)
		refuses(2, 3, none, 1)
		refuses(2, 2, none)
		refuses(4, 3, none)
		refuses(4, 3, 1, 2, 5, none)
	}
	wait(t, g, 4, 3)
	checkCycle(t, g, 4, 4, 3)
}

// R3: the list of others is left as it was, spare room too, and is not kept.
func TestOthersAreLeftAndNotKept(t *testing.T) {
	g := lock.NewGraph()
	room := []int{9, 3, 9, 1, 7, 7}
	wait(t, g, 1, room[:4]...)
	if !slices.Equal(room, []int{9, 3, 9, 1, 7, 7}) {
		t.Error(room)
	}
	for _, worker := range []int{3, 7, 8, 9} {
		wait(t, g, worker, 1)
	}
	for i := range room {
		room[i] = 8
	}
	checkCycle(t, g, 1, 1, 3)
	checkCycle(t, g, 9, 9, 1)
	checkCycle(t, g, 8)
	checkCycle(t, g, 7)
	wrong := []int{5, 5, 16, 5}
	if e := g.Wait(2, wrong[:3]...); e != api.ErrArg || !slices.Equal(wrong, []int{5, 5, 16, 5}) {
		t.Error(e, wrong)
	}
}

func TestCycleOfNobody(t *testing.T) { // P13.5
	g := lock.NewGraph()
	for worker := range api.MaxWorkers {
		wait(t, g, worker, 0, 1, 2, 3, 4, 5, 6, 7, 8, 9, 10, 11, 12, 13, 14, 15)
	}
	for _, none := range noWorkers {
		checkCycle(t, g, none)
	}
	checkCycle(t, g, 0, 0, 1) // everybody waits for everybody: the least other one
	for worker := 1; worker < api.MaxWorkers; worker++ {
		checkCycle(t, g, worker, worker, 0)
	}
}

// ring lets each of them wait for the next one, the last one for the first.
func ring(t *testing.T, g *lock.Graph, members ...int) {
	t.Helper()
	for i, worker := range members {
		wait(t, g, worker, members[(i+1)%len(members)])
	}
}

// turned is a list from its i-th entry on, round.
func turned(list []int, i int) []int {
	return slices.Concat(list[i:], list[:i])
}

func TestCycleOfEachLength(t *testing.T) { // P13.5
	order := []int{5, 0, 15, 9, 2, 14, 7, 1, 12, 3, 10, 8, 4, 13, 6, 11}
	for n := 2; n <= len(order); n++ {
		g := lock.NewGraph()
		members := order[:n]
		ring(t, g, members...)
		for i, worker := range members {
			checkCycle(t, g, worker, turned(members, i)...)
		}
		noCycles(t, g, members...)
	}
}

func TestPathIsNoCycle(t *testing.T) { // P13.5
	g := lock.NewGraph()
	for worker := range api.MaxWorkers - 1 {
		wait(t, g, worker, worker+1)
	}
	noCycles(t, g)
	wait(t, g, 0, 1, 2, 3, 15)
	wait(t, g, 3, 4, 9, 14)
	noCycles(t, g) // several ways to one worker are no cycle
}

func TestWhoLeadsIntoACycle(t *testing.T) { // P13.5
	g := lock.NewGraph()
	ring(t, g, 4, 7, 5)
	wait(t, g, 0, 4)
	wait(t, g, 9, 0, 7)
	wait(t, g, 5, 4, 15) // and who is led to out of it
	wait(t, g, 15, 14)
	checkCycle(t, g, 7, 7, 5, 4)
	noCycles(t, g, 4, 7, 5)
}

func TestShortestCycle(t *testing.T) { // P13.5
	g := lock.NewGraph()
	wait(t, g, 0, 1, 9) // 0 1 2 3, or 0 9 8
	wait(t, g, 1, 2)
	wait(t, g, 2, 3)
	wait(t, g, 3, 0)
	wait(t, g, 9, 8)
	wait(t, g, 8, 0)
	checkCycle(t, g, 0, 0, 9, 8)
	checkCycle(t, g, 2, 2, 3, 0, 1)
	wait(t, g, 0, 1, 9, 15)
	wait(t, g, 15, 0)
	checkCycle(t, g, 0, 0, 15)
	wait(t, g, 2, 3, 0) // 0 1 2: longer than 0 15, shorter than 2 3 0 1
	checkCycle(t, g, 0, 0, 15)
	checkCycle(t, g, 2, 2, 0, 1)
	checkCycle(t, g, 3, 3, 0, 1, 2)
}

func TestLeastOfCyclesOfOneLength(t *testing.T) { // P13.5: the second worker, then the third, and so on
	g := lock.NewGraph()
	wait(t, g, 8, 13, 6, 2)
	wait(t, g, 13, 8)
	wait(t, g, 6, 8)
	checkCycle(t, g, 8, 8, 6) // 2 is less, but leads nowhere
	wait(t, g, 2, 8)
	checkCycle(t, g, 8, 8, 2)

	g = lock.NewGraph()
	wait(t, g, 8, 5, 6) // 8 5 9 or 8 6 1: the second counts, whatever the third is
	wait(t, g, 5, 9)
	wait(t, g, 6, 1)
	wait(t, g, 9, 8)
	wait(t, g, 1, 8)
	checkCycle(t, g, 8, 8, 5, 9)
	wait(t, g, 5, 9, 4, 0) // 8 5 4
	wait(t, g, 4, 8)
	checkCycle(t, g, 8, 8, 5, 4)
	wait(t, g, 0, 7) // 8 5 0 7 is longer
	wait(t, g, 7, 8)
	checkCycle(t, g, 8, 8, 5, 4)

	g = lock.NewGraph()
	wait(t, g, 15, 1) // 15 1 3 0 or 15 1 2 4: the third counts, whatever the fourth is
	wait(t, g, 1, 3, 2)
	wait(t, g, 3, 0)
	wait(t, g, 2, 4)
	wait(t, g, 0, 15)
	wait(t, g, 4, 15)
	checkCycle(t, g, 15, 15, 1, 2, 4)
	wait(t, g, 3, 4) // 4 is come to by both
	checkCycle(t, g, 15, 15, 1, 2, 4)
	wait(t, g, 2, 9, 5)
	wait(t, g, 9, 15)
	wait(t, g, 5, 15)
	checkCycle(t, g, 15, 15, 1, 2, 5)
}

func TestTwoCyclesApart(t *testing.T) { // P13.5: each is told of its own
	g := lock.NewGraph()
	ring(t, g, 3, 1)
	ring(t, g, 2, 9, 4)
	checkCycle(t, g, 1, 1, 3)
	checkCycle(t, g, 3, 3, 1)
	checkCycle(t, g, 2, 2, 9, 4)
	checkCycle(t, g, 4, 4, 2, 9)
	wait(t, g, 9, 4, 1) // one leads into the other one, which leads not back
	checkCycle(t, g, 9, 9, 4, 2)
	checkCycle(t, g, 1, 1, 3)
}

// wipe writes all over a list, spare room too.
func wipe(list []int) {
	for i := range list[:cap(list)] {
		list[:cap(list)][i] = -77
	}
}

func TestNewMemory(t *testing.T) { // R3
	g := lock.NewGraph()
	ring(t, g, 1, 2, 3, 0)
	for range 3 {
		one, _ := g.Cycle(1)
		other, _ := g.Cycle(1)
		wipe(one)
		if !slices.Equal(other, []int{1, 2, 3, 0}) {
			t.Errorf("two cycles share memory: %v", other)
		}
		wipe(other)
		wipe(lock.Readers(10))
		wipe(lock.Against(10, 1, true))
		wipe(lock.Against(writes(1), 3, false))
		checkReaders(t, 10, 1, 3)
		checkAgainst(t, 10, 1, true, 3)
		checkAgainst(t, writes(1), 3, false, 1)
		checkCycle(t, g, 1, 1, 2, 3, 0)
		checkCycle(t, g, 0, 0, 1, 2, 3)
	}
}

func TestVictim(t *testing.T) { // P13.6
	checkVictim(t, []int{2, 1}, []int{9, 4, 7, 8}, 2) // whoever is in no cycle does not count
	checkVictim(t, []int{3, 0, 2}, []int{9, 4, 7, 8}, 0)
	checkVictim(t, []int{1, 2}, []int{0, 7, 7}, 1) // of equal ages the least number
	checkVictim(t, []int{2, 1}, []int{0, 7, 7}, 1)
	checkVictim(t, []int{5, 3, 4}, []int{0, 0, 0, 7, 7, 6}, 3)
	checkVictim(t, []int{15, 0}, nil, 0)
	checkVictim(t, []int{15, 14, 13}, []int{1, 2, 3}, 13) // all ages are missing
	checkVictim(t, []int{1, 2}, []int{5, 3}, 1)           // one of them is
	checkVictim(t, []int{1, 2}, []int{5, 0}, 1)
	checkVictim(t, []int{1, 2}, []int{5, -3}, 2) // what is missing is 0, and above what is below it
	checkVictim(t, []int{0, 1}, []int{-3, -4}, 0)
	checkVictim(t, []int{0, 1}, []int{-4, -3}, 1)
	checkVictim(t, []int{0, 1}, []int{math.MinInt, math.MinInt}, 0)
	checkVictim(t, []int{0, 1}, []int{math.MinInt, math.MinInt + 1}, 1)
	checkVictim(t, []int{0, 1}, []int{math.MinInt, math.MaxInt}, 1)
	checkVictim(t, []int{1, 0}, []int{math.MaxInt, math.MinInt}, 0)
	checkVictim(t, []int{15, 3}, []int{15: 1}, 15)
	checkVictim(t, []int{15, 3}, []int{16: 1, 20: 9}, 3) // more ages than there are workers
	for worker := range api.MaxWorkers {                 // one alone, and one twice
		checkVictim(t, []int{worker}, nil, worker)
		checkVictim(t, []int{worker}, slices.Repeat([]int{-9}, api.MaxWorkers), worker)
		checkVictim(t, []int{worker, worker}, []int{1, 2, 3}, worker)
	}
}

func TestNoVictim(t *testing.T) { // P13.6
	ages := []int{3, 2, 1}
	for _, list := range [][]int{nil, ages} {
		noVictim(t, nil, list)
		noVictim(t, []int{}, list)
	}
	for _, none := range noWorkers {
		for _, cycle := range [][]int{{none}, {none, 1}, {1, none}, {0, none, 2}, {1, 2, 3, none}, {none, none}} {
			noVictim(t, cycle, nil)
			noVictim(t, cycle, ages)
			noVictim(t, cycle, slices.Repeat([]int{4}, 70))
		}
	}
}

func TestVictimLeavesWhatIsHandedIn(t *testing.T) { // R3
	cycle, ages := []int{4, 2, 9, 3, 77}, []int{1, 1, 5, 0, 5, -7}
	checkVictim(t, cycle[:4], ages[:5], 2)
	if !slices.Equal(cycle, []int{4, 2, 9, 3, 77}) || !slices.Equal(ages, []int{1, 1, 5, 0, 5, -7}) {
		t.Error(cycle, ages)
	}
}

func TestNilGraph(t *testing.T) { // P13.6, R4: whatever else is wrong
	var g *lock.Graph
	for _, worker := range append([]int{0, 1, 15}, noWorkers...) {
		for _, others := range [][]int{nil, {1}, {worker}, {1, 2, 3}, {-1}, {16}} {
			if e := g.Wait(worker, others...); e != api.ErrNil {
				t.Errorf("Wait(%d, %v) of a nil graph: %v", worker, others, e)
			}
		}
		checkCycle(t, g, worker)
	}
}

// P13.7: where a worker may write, nobody else reads or writes, and behind it nobody else may do either.
func TestWriterIsAlone(t *testing.T) {
	for _, begin := range []uint64{0, 1 << 6} {
		w, ok, e := lock.Write(begin, 6)
		if !ok || e != api.OK {
			t.Fatal(ok, e)
		}
		for other := range api.MaxWorkers {
			if other == 6 {
				continue
			}
			mayNotRead(t, w, other)
			mayNotWrite(t, w, other)
			checkAgainst(t, w, other, false, 6)
			checkAgainst(t, w, other, true, 6)
		}
	}
}

// P13.7: whoever came first, the readers of a word are the same, and so is the word.
func TestReadersInWhateverOrder(t *testing.T) {
	members := []int{0, 3, 8, 15}
	var come func(w uint64, left []int)
	come = func(w uint64, left []int) {
		if len(left) == 0 {
			if w != reads(members...) {
				t.Errorf("%x", w)
			}
			return
		}
		for i, worker := range left {
			now, ok, e := lock.Read(w, worker)
			if !ok || e != api.OK {
				t.Fatalf("Read(%x, %d): %v %v", w, worker, ok, e)
			}
			come(now, slices.Concat(left[:i], left[i+1:]))
		}
	}
	come(0, members)
}

// P13.7: behind Leave a worker is in nobody's way.
func TestBehindLeave(t *testing.T) {
	for worker := range api.MaxWorkers {
		for _, w := range []uint64{reads(worker), writes(worker), reads(worker) + writes(worker), allRead, allRead + writes(worker), allRead + writes(15-worker)} {
			now, e := lock.Leave(w, worker)
			if e != api.OK {
				t.Fatal(e)
			}
			for other := range api.MaxWorkers {
				if slices.Contains(lock.Against(now, other, true), worker) || slices.Contains(lock.Against(now, other, false), worker) {
					t.Errorf("%d has left %x, and is in the way of %d", worker, w, other)
				}
			}
		}
		checkWrite(t, 0, worker, writes(worker))
	}
}

// P13.8: whoever of a cycle goes, it is none any more.
func TestCycleIsNoneBehindItsVictim(t *testing.T) {
	members := []int{3, 11, 0, 7, 15}
	for goes := range members {
		g := lock.NewGraph()
		ring(t, g, members...)
		wait(t, g, members[goes])
		noCycles(t, g)
	}
	g := lock.NewGraph()
	ring(t, g, 3, 11, 0)
	wait(t, g, 3, 11, 8)
	wait(t, g, 8, 3)
	cycle, _ := g.Cycle(11)
	victim, ok := lock.Victim(cycle, []int{1: 0, 11: 5})
	if victim != 11 || !ok {
		t.Fatal(cycle, victim, ok)
	}
	wait(t, g, victim)
	checkCycle(t, g, 11)
	checkCycle(t, g, 0)
	checkCycle(t, g, 3, 3, 8) // another one, which has lost nobody
	wait(t, g, 3, 11)         // who waits on for one that goes is in none
	noCycles(t, g)
}

// R4: what a graph answers hangs on its own calls alone, and asking changes nothing.
func TestAskingChangesNothing(t *testing.T) {
	one, other := lock.NewGraph(), lock.NewGraph()
	ring(t, one, 1, 2)
	ring(t, other, 2, 3)
	for range 3 {
		checkCycle(t, one, 1, 1, 2)
		checkCycle(t, one, 3)
		checkCycle(t, other, 2, 2, 3)
		checkCycle(t, other, 1)
	}
	wait(t, one, 2)
	checkCycle(t, one, 1)
	checkCycle(t, other, 3, 3, 2)
}
