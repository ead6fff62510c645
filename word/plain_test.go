package word_test

import (
	"math"
	"math/big"
	"math/rand"
	"testing"

	"varve/api"
	"varve/word"
)

// said is what a number says, told where it is written down and not read from it: of a word of a version, or of a state word.
type said struct {
	w     uint64
	right bool
	owner int   // of an owner
	state int   // of a state word
	at    int64 // of a timestamp, of a state word; of Never one that is above all
}

func saidWords(times []int64, owners []int) []said {
	words := []said{{w: word.Never, right: true, at: math.MaxInt64}}
	for _, at := range times {
		words = append(words, said{w: uint64(at), right: true, at: at})
	}
	for _, n := range owners {
		words = append(words, said{w: top + uint64(n), right: true, owner: n})
	}
	for _, w := range []uint64{1<<40 + 1, top - 1, top, top + 1<<20, math.MaxUint64} {
		words = append(words, said{w: w})
	}
	return words
}

func saidStates(times []int64) []said {
	states := []said{{w: 0, right: true, state: api.Active}, {w: aborted, right: true, state: api.Aborted}}
	for _, at := range times {
		states = append(states, said{w: preparing + uint64(at), right: true, state: api.Preparing, at: at})
		states = append(states, said{w: committed + uint64(at), right: true, state: api.Committed, at: at})
	}
	for _, w := range []uint64{1, preparing + 1<<40, committed + 1<<40, aborted + 1} {
		states = append(states, said{w: w})
	}
	return states
}

// plainRight: P5.3's condition, word for word.
func plainRight(me int, at int64, begin, end, b, e said) bool {
	if me < 0 || me >= 1<<20 || at < 0 || at >= 1<<40 {
		return false
	}
	if !begin.right || begin.w == word.Never || !end.right {
		return false
	}
	if begin.owner != 0 && begin.owner != me && !b.right {
		return false
	}
	return end.owner == 0 || end.owner == me || e.right
}

// plainSees: P5.3's two points, word for word.
func plainSees(me int, at int64, begin, end, b, e said) int {
	switch {
	case begin.owner == 0 && begin.at > at:
		return api.Hidden
	case begin.owner == 0 || begin.owner == me:
	case b.state == api.Active || b.state == api.Aborted || b.at > at:
		return api.Hidden
	case b.state == api.Preparing:
		return api.Unsure
	}
	switch {
	case end.w == word.Never:
		return api.Seen
	case end.owner == 0 && end.at > at:
		return api.Seen
	case end.owner == 0 || end.owner == me:
		return api.Hidden
	case e.state == api.Active || e.state == api.Aborted || e.at > at:
		return api.Seen
	case e.state == api.Preparing:
		return api.Unsure
	}
	return api.Hidden
}

func TestSeesOfAllKinds(t *testing.T) { // P5.3: every kind of every argument with every kind of the others
	times := []int64{0, 6, 7, 8, lastTime}
	words, states := saidWords(times, []int{1, 2, lastTxn}), saidStates(times)
	wrongs := 0
	for _, me := range []int{-1, 0, 1, 2, lastTxn, 1 << 20} {
		for _, at := range []int64{-1, 0, 7, lastTime, 1 << 40} {
			for _, begin := range words {
				for _, end := range words {
					for _, b := range states {
						for _, e := range states {
							want, code := 0, api.ErrWordForm
							if plainRight(me, at, begin, end, b, e) {
								want, code = plainSees(me, at, begin, end, b, e), api.OK
							}
							got, gotCode := word.Sees(me, at, begin.w, end.w, b.w, e.w)
							if got != want || gotCode != code {
								t.Errorf("Sees(%d, %d, %x, %x, %x, %x): %d %v, not %d %v", me, at, begin.w, end.w, b.w, e.w, got, gotCode, want, code)
								wrongs++
							}
							if wrongs > 20 {
								t.FailNow()
							}
						}
					}
				}
			}
		}
	}
}

func power(n uint) *big.Int { return new(big.Int).Lsh(big.NewInt(1), n) }

func inside(n *big.Int, below uint) bool { return n.Sign() >= 0 && n.Cmp(power(below)) < 0 }

// plainParts reads a word by numbers that do not go round.
func plainParts(w uint64) (int64, int, bool) {
	n := new(big.Int).SetUint64(w)
	if inside(n, 40) || n.Cmp(power(40)) == 0 {
		return n.Int64(), 0, true
	}
	n.Sub(n, power(63))
	if n.Sign() != 0 && inside(n, 20) {
		return 0, int(n.Int64()), true
	}
	return 0, 0, false
}

// plainUnstate looks for the one state of which a number is a word.
func plainUnstate(w uint64) (int, int64, bool) {
	for state, times := range []uint{0, 40, 40, 0} {
		n := new(big.Int).SetUint64(w)
		n.Sub(n, new(big.Int).Mul(big.NewInt(int64(state)), power(62)))
		if inside(n, times) {
			return state, n.Int64(), true
		}
	}
	return 0, 0, false
}

// near is a number close to one where something begins or ends, or any one.
func near(r *rand.Rand) uint64 {
	if r.Intn(8) == 0 {
		return r.Uint64()
	}
	n := uint64(r.Intn(4)) << 62
	if r.Intn(3) > 0 {
		n += 1 << []int{20, 40, 62, 63}[r.Intn(4)]
	}
	return n + uint64(r.Intn(7)) - 3
}

func TestReadingOfManyNumbers(t *testing.T) { // P5.1, P5.2; P5.4: what is read is written so, and so alone
	r := rand.New(rand.NewSource(5))
	for range 200000 {
		w := near(r)
		at, txn, ok := word.Parts(w)
		if wantAt, wantTxn, want := plainParts(w); at != wantAt || txn != wantTxn || ok != want {
			t.Fatalf("Parts(%x): %d %d %v, not %d %d %v", w, at, txn, ok, wantAt, wantTxn, want)
		}
		if ok && w != word.Never {
			back, e := word.Time(at)
			if txn != 0 {
				back, e = word.Owner(txn)
			}
			if back != w || e != api.OK {
				t.Fatalf("Parts(%x): %d %d, back %x %v", w, at, txn, back, e)
			}
		}
		state, at, ok := word.Unstate(w)
		if wantState, wantAt, want := plainUnstate(w); state != wantState || at != wantAt || ok != want {
			t.Fatalf("Unstate(%x): %d %d %v, not %d %d %v", w, state, at, ok, wantState, wantAt, want)
		}
		if ok {
			if back, e := word.State(state, at); back != w || e != api.OK {
				t.Fatalf("Unstate(%x): %d %d, back %x %v", w, state, at, back, e)
			}
		}
	}
}

func TestWritingOfManyNumbers(t *testing.T) { // P5.1, P5.2; P5.4: what is written is read so
	r := rand.New(rand.NewSource(6))
	for range 200000 {
		n := int64(near(r))
		if w, e := word.Time(n); (e == api.OK) != (n >= 0 && n < 1<<40) || e == api.OK && w != uint64(n) || e != api.OK && (w != 0 || e != api.ErrWordForm) {
			t.Fatalf("Time(%d): %x %v", n, w, e)
		}
		w, e := word.Owner(int(n))
		if (e == api.OK) != (n > 0 && n < 1<<20) || e != api.OK && (w != 0 || e != api.ErrWordForm) {
			t.Fatalf("Owner(%d): %x %v", n, w, e)
		}
		if at, txn, ok := word.Parts(w); e == api.OK && (at != 0 || txn != int(n) || !ok) {
			t.Fatalf("Owner(%d): %x, back %d %d %v", n, w, at, txn, ok)
		}
		state := r.Intn(7) - 1
		w, e = word.State(state, n)
		may := n == 0 && (state == 0 || state == 3) || n >= 0 && n < 1<<40 && (state == 1 || state == 2)
		if (e == api.OK) != may || e != api.OK && (w != 0 || e != api.ErrWordForm) {
			t.Fatalf("State(%d, %d): %x %v", state, n, w, e)
		}
		if gotState, at, ok := word.Unstate(w); may && (gotState != state || at != n || !ok) {
			t.Fatalf("State(%d, %d): %x, back %d %d %v", state, n, w, gotState, at, ok)
		}
	}
}
