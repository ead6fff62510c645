package word_test

import (
	"math"
	"testing"

	"varve/api"
	"varve/word"
)

const (
	lastTime = 1<<40 - 1
	lastTxn  = 1<<20 - 1

	top uint64 = 1 << 63 // owners stand above it

	preparing uint64 = 1 << 62
	committed uint64 = 2 << 62
	aborted   uint64 = 3 << 62
)

func checkSees(t *testing.T, me int, at int64, begin, end, b, e uint64, want int) {
	t.Helper()
	if got, code := word.Sees(me, at, begin, end, b, e); got != want || code != api.OK {
		t.Errorf("Sees(%d, %d, %x, %x, %x, %x): %d %v, not %d", me, at, begin, end, b, e, got, code, want)
	}
}

func checkRefused(t *testing.T, me int, at int64, begin, end, b, e uint64) {
	t.Helper()
	if got, code := word.Sees(me, at, begin, end, b, e); got != 0 || code != api.ErrWordForm {
		t.Errorf("Sees(%d, %d, %x, %x, %x, %x): %d %v, not ErrWordForm", me, at, begin, end, b, e, got, code)
	}
}

func TestExamples(t *testing.T) { // P5.1, P5.2, P5.3: the chapter's table
	const two = 0x8000000000000002
	if w, e := word.Time(5); w != 5 || e != api.OK {
		t.Errorf("Time(5): %x %v", w, e)
	}
	if w, e := word.Time(-1); w != 0 || e != api.ErrWordForm {
		t.Errorf("Time(-1): %x %v", w, e)
	}
	if w, e := word.Owner(3); w != 0x8000000000000003 || e != api.OK {
		t.Errorf("Owner(3): %x %v", w, e)
	}
	if w, e := word.Owner(0); w != 0 || e != api.ErrWordForm {
		t.Errorf("Owner(0): %x %v", w, e)
	}
	if at, txn, ok := word.Parts(word.Never); at != 1<<40 || txn != 0 || !ok {
		t.Errorf("Parts(Never): %d %d %v", at, txn, ok)
	}
	if at, txn, ok := word.Parts(1<<40 + 1); at != 0 || txn != 0 || ok {
		t.Errorf("Parts(2^40 + 1): %d %d %v", at, txn, ok)
	}
	p, e := word.State(api.Preparing, 5)
	if p != 0x4000000000000005 || e != api.OK {
		t.Errorf("State(Preparing, 5): %x %v", p, e)
	}
	if w, e := word.State(api.Active, 5); w != 0 || e != api.ErrWordForm {
		t.Errorf("State(Active, 5): %x %v", w, e)
	}
	c, e := word.State(api.Committed, 5)
	if c != 0x8000000000000005 || e != api.OK {
		t.Errorf("State(Committed, 5): %x %v", c, e)
	}
	checkSees(t, 1, 7, 5, word.Never, 0, 0, api.Seen)
	checkSees(t, 1, 4, 5, word.Never, 0, 0, api.Hidden)
	checkSees(t, 1, 7, 5, 7, 0, 0, api.Hidden)
	checkSees(t, 1, 6, 5, 7, 0, 0, api.Seen)
	checkSees(t, 1, 7, two, word.Never, p, 0, api.Unsure)
	checkSees(t, 1, 4, two, word.Never, p, 0, api.Hidden)
	checkSees(t, 1, 7, two, word.Never, c, 0, api.Seen)
	checkSees(t, 2, 7, two, word.Never, 0, 0, api.Seen)
	checkSees(t, 2, 7, 3, two, 0, 0, api.Hidden)
	checkSees(t, 1, 7, 3, two, 0, p, api.Unsure)
}

func TestNever(t *testing.T) { // Words: 2^40, of the type that words have
	var w uint64 = word.Never
	if w != 1<<40 {
		t.Errorf("Never: %x", w)
	}
}

func TestTime(t *testing.T) { // P5.1
	for _, at := range []int64{0, 1, 2, 5, 1 << 20, 1 << 32, lastTime - 1, lastTime} {
		if w, e := word.Time(at); w != uint64(at) || e != api.OK {
			t.Errorf("Time(%d): %x %v", at, w, e)
		}
	}
	for _, at := range []int64{-1, -2, -lastTime, math.MinInt64, math.MinInt64 + 3, 1 << 40, 1<<40 + 1, 1 << 62, math.MaxInt64} {
		if w, e := word.Time(at); w != 0 || e != api.ErrWordForm {
			t.Errorf("Time(%d): %x %v, not ErrWordForm", at, w, e)
		}
	}
}

func TestOwner(t *testing.T) { // P5.1
	for _, txn := range []int{1, 2, 3, 255, 65536, lastTxn - 1, lastTxn} {
		if w, e := word.Owner(txn); w != top+uint64(txn) || e != api.OK {
			t.Errorf("Owner(%d): %x %v", txn, w, e)
		}
	}
	for _, txn := range []int{0, -1, -2, -lastTxn, math.MinInt, math.MinInt + 3, 1 << 20, 1<<20 + 1, 1 << 32, 1<<32 + 3, math.MaxInt} {
		if w, e := word.Owner(txn); w != 0 || e != api.ErrWordForm {
			t.Errorf("Owner(%d): %x %v, not ErrWordForm", txn, w, e)
		}
	}
}

// noWords are numbers that no version has: between Never and the owners, the owner 0, and beyond the owners.
var noWords = []uint64{
	1<<40 + 1, 1<<40 + 2, 1 << 41, 1 << 62, 1<<62 + 5, top - 1,
	top,
	top + 1<<20, top + 1<<20 + 1, top + 1<<40, aborted, math.MaxUint64,
}

func TestParts(t *testing.T) { // P5.1
	for _, at := range []int64{0, 1, 5, 1 << 20, lastTime - 1, lastTime, api.MaxTime} {
		if gotAt, txn, ok := word.Parts(uint64(at)); gotAt != at || txn != 0 || !ok {
			t.Errorf("Parts(%x): %d %d %v", at, gotAt, txn, ok)
		}
	}
	for _, txn := range []int{1, 2, 65536, lastTxn - 1, lastTxn} {
		if at, gotTxn, ok := word.Parts(top + uint64(txn)); at != 0 || gotTxn != txn || !ok {
			t.Errorf("Parts(%x): %d %d %v", top+uint64(txn), at, gotTxn, ok)
		}
	}
	for _, w := range noWords {
		if at, txn, ok := word.Parts(w); at != 0 || txn != 0 || ok {
			t.Errorf("Parts(%x): %d %d %v, though it is no word", w, at, txn, ok)
		}
	}
}

func TestState(t *testing.T) { // P5.2
	times := []int64{0, 1, 5, lastTime - 1, lastTime, 1 << 40, 1<<40 + 1, 1 << 62, math.MaxInt64, -1, -5, math.MinInt64}
	for _, at := range times {
		right := map[int]bool{
			api.Active:    at == 0,
			api.Preparing: at >= 0 && at <= lastTime,
			api.Committed: at >= 0 && at <= lastTime,
			api.Aborted:   at == 0,
		}
		for state, ok := range right {
			w, e := word.State(state, at)
			want, code := uint64(0), api.ErrWordForm
			if ok {
				want, code = uint64(state)<<62|uint64(at), api.OK
			}
			if w != want || e != code {
				t.Errorf("State(%d, %d): %x %v, not %x %v", state, at, w, e, want, code)
			}
		}
		for _, state := range []int{-1, -2, math.MinInt, 4, 5, 6, 7, 1 << 32, 1<<32 + 1, math.MaxInt} {
			if w, e := word.State(state, at); w != 0 || e != api.ErrWordForm {
				t.Errorf("State(%d, %d): %x %v, not ErrWordForm", state, at, w, e)
			}
		}
	}
}

// noStates are numbers that are no state words: a timestamp where there may be none, or one that is none.
var noStates = []uint64{
	1, 5, lastTime, 1 << 40, preparing - 1,
	preparing + 1<<40, preparing + 1<<40 + 1, committed - 1,
	committed + 1<<40, committed + 1<<40 + 5, aborted - 1,
	aborted + 1, aborted + 5, aborted + lastTime, aborted + 1<<40, math.MaxUint64,
}

func TestUnstate(t *testing.T) { // P5.2
	for _, x := range []struct {
		w     uint64
		state int
		at    int64
	}{
		{0, api.Active, 0},
		{preparing, api.Preparing, 0}, {preparing + 1, api.Preparing, 1}, {preparing + 5, api.Preparing, 5}, {preparing + lastTime, api.Preparing, lastTime},
		{committed, api.Committed, 0}, {committed + 1, api.Committed, 1}, {committed + 5, api.Committed, 5}, {committed + lastTime, api.Committed, lastTime},
		{aborted, api.Aborted, 0},
	} {
		if state, at, ok := word.Unstate(x.w); state != x.state || at != x.at || !ok {
			t.Errorf("Unstate(%x): %d %d %v", x.w, state, at, ok)
		}
	}
	for _, w := range noStates {
		if state, at, ok := word.Unstate(w); state != 0 || at != 0 || ok {
			t.Errorf("Unstate(%x): %d %d %v, though it is no state word", w, state, at, ok)
		}
	}
}

func TestSeesRefusesOneWrong(t *testing.T) { // P5.3: each alone, R2
	const two, three = top + 2, top + 3
	checkSees(t, 1, 7, two, three, committed+5, committed+9, api.Seen) // all right
	for _, me := range []int{-1, -2, math.MinInt, 1 << 20, 1<<20 + 1, 1 << 32, math.MaxInt} {
		checkRefused(t, me, 7, two, three, committed+5, committed+9)
		checkRefused(t, me, 7, 5, word.Never, 0, 0)
	}
	for _, at := range []int64{-1, -7, math.MinInt64, 1 << 40, 1<<40 + 1, math.MaxInt64} {
		checkRefused(t, 1, at, two, three, committed+5, committed+9)
		checkRefused(t, 1, at, 5, word.Never, 0, 0)
		checkRefused(t, 0, at, 5, word.Never, 0, 0)
	}
	checkRefused(t, 1, 7, word.Never, word.Never, 0, 0) // a version that begins never is none
	checkRefused(t, 1, 7, word.Never, three, 0, committed+9)
	for _, w := range noWords {
		checkRefused(t, 1, 7, w, word.Never, 0, 0)
		checkRefused(t, 1, 7, w, three, committed+5, committed+9)
		checkRefused(t, 1, 7, 5, w, 0, 0)
		checkRefused(t, 1, 7, two, w, committed+5, committed+9)
	}
	for _, s := range noStates {
		checkRefused(t, 1, 7, two, three, s, committed+9)
		checkRefused(t, 1, 7, two, word.Never, s, 0)
		checkRefused(t, 1, 7, two, three, committed+5, s)
		checkRefused(t, 1, 7, 5, three, 0, s)
	}
}

func TestSeesRefusesSeveralWrongs(t *testing.T) { // P5.3: any of them wrong, whatever the others are
	type pick struct{ right, wrong uint64 }
	mes, ats := []int{1, -1}, []int64{7, 1 << 40}
	begin, end := pick{top + 2, word.Never}, pick{top + 3, top}
	b, e := pick{committed + 5, aborted + 1}, pick{committed + 9, 5}
	of := func(p pick, set, bit int) uint64 {
		if set>>bit&1 == 1 {
			return p.wrong
		}
		return p.right
	}
	for set := 1; set < 64; set++ {
		checkRefused(t, mes[set&1], ats[set>>1&1], of(begin, set, 2), of(end, set, 3), of(b, set, 4), of(e, set, 5))
	}
}

func TestSeesRefusesAWrongEndOfWhatIsHidden(t *testing.T) { // P5.3: the errors are ahead of what begin says
	const two, three = top + 2, top + 3
	for _, x := range []struct{ begin, b uint64 }{{9, 0}, {two, 0}, {two, aborted}, {two, preparing + 9}, {two, committed + 9}, {two, preparing + 5}} {
		checkRefused(t, 1, 7, x.begin, word.Never+1, x.b, 0)
		checkRefused(t, 1, 7, x.begin, top, x.b, 0)
		checkRefused(t, 1, 7, x.begin, three, x.b, 5)
		checkRefused(t, 1, 7, x.begin, three, x.b, aborted+1)
	}
}

func TestSeesLooksNotAtStatesOfNobodyElse(t *testing.T) { // P5.3: b and e are asked of other owners alone
	const one, two = top + 1, top + 2
	for _, s := range noStates {
		checkSees(t, 1, 7, 5, word.Never, s, s, api.Seen)
		checkSees(t, 1, 7, 5, 6, s, s, api.Hidden)
		checkSees(t, 1, 7, 9, word.Never, s, s, api.Hidden)
		checkSees(t, 1, 7, one, word.Never, s, s, api.Seen)
		checkSees(t, 1, 7, 5, one, s, s, api.Hidden)
		checkSees(t, 1, 7, one, one, s, s, api.Hidden)
		checkSees(t, 1, 7, one, two, s, 0, api.Seen)
		checkSees(t, 1, 7, 5, two, s, committed+6, api.Hidden)
		checkSees(t, 1, 7, two, word.Never, committed+5, s, api.Seen)
		checkSees(t, 1, 7, two, one, committed+5, s, api.Hidden)
	}
	for _, s := range []uint64{0, aborted, preparing + 5, committed + 9} { // right ones make no difference there either
		checkSees(t, 1, 7, one, word.Never, s, s, api.Seen)
		checkSees(t, 1, 7, 5, one, s, s, api.Hidden)
		checkSees(t, 1, 7, 5, word.Never, s, s, api.Seen)
	}
}

func TestSeesBegin(t *testing.T) { // P5.3, 1: of a version that does not end
	const one, two = top + 1, top + 2
	for _, me := range []int{0, 1, 3, lastTxn} {
		for _, x := range []struct {
			begin, b uint64
			want     int
		}{
			{0, 0, api.Seen}, {6, 0, api.Seen}, {7, 0, api.Seen}, {8, 0, api.Hidden}, {lastTime, 0, api.Hidden},
			{two, 0, api.Hidden}, {two, aborted, api.Hidden},
			{two, preparing, api.Unsure}, {two, preparing + 6, api.Unsure}, {two, preparing + 7, api.Unsure}, {two, preparing + 8, api.Hidden}, {two, preparing + lastTime, api.Hidden},
			{two, committed, api.Seen}, {two, committed + 6, api.Seen}, {two, committed + 7, api.Seen}, {two, committed + 8, api.Hidden}, {two, committed + lastTime, api.Hidden},
		} {
			checkSees(t, me, 7, x.begin, word.Never, x.b, 0, x.want)
		}
	}
	for _, at := range []int64{0, 7, lastTime} { // its own version it sees at all times
		checkSees(t, 1, at, one, word.Never, 0, 0, api.Seen)
		checkSees(t, lastTxn, at, top+lastTxn, word.Never, 0, 0, api.Seen)
	}
	checkSees(t, 0, 7, one, word.Never, 0, 0, api.Hidden) // nobody owns nothing
	checkSees(t, 0, 0, 0, word.Never, 0, 0, api.Seen)
	checkSees(t, 0, lastTime, lastTime, word.Never, 0, 0, api.Seen)
	checkSees(t, 0, lastTime-1, lastTime, word.Never, 0, 0, api.Hidden)
}

func TestSeesEnd(t *testing.T) { // P5.3, 2: of a version that has begun, however
	const one, two, four = top + 1, top + 2, top + 4
	for _, begun := range []struct{ begin, b uint64 }{{0, 0}, {7, 0}, {one, 0}, {four, committed}, {four, committed + 7}} {
		for _, x := range []struct {
			end, e uint64
			want   int
		}{
			{word.Never, 0, api.Seen},
			{0, 0, api.Hidden}, {6, 0, api.Hidden}, {7, 0, api.Hidden}, {8, 0, api.Seen}, {lastTime, 0, api.Seen},
			{one, 0, api.Hidden},
			{two, 0, api.Seen}, {two, aborted, api.Seen},
			{two, preparing, api.Unsure}, {two, preparing + 6, api.Unsure}, {two, preparing + 7, api.Unsure}, {two, preparing + 8, api.Seen}, {two, preparing + lastTime, api.Seen},
			{two, committed, api.Hidden}, {two, committed + 6, api.Hidden}, {two, committed + 7, api.Hidden}, {two, committed + 8, api.Seen}, {two, committed + lastTime, api.Seen},
		} {
			checkSees(t, 1, 7, begun.begin, x.end, begun.b, x.e, x.want)
		}
	}
	checkSees(t, 0, lastTime, 0, lastTime, 0, 0, api.Hidden)
	checkSees(t, 0, lastTime, 0, word.Never, 0, 0, api.Seen)
	checkSees(t, 0, 7, 5, one, 0, 0, api.Seen) // nobody ends nothing
}

func TestSeesHidesWhatHasNotBegun(t *testing.T) { // P5.3: whatever its end is
	const one, two, four = top + 1, top + 2, top + 4
	for _, x := range []struct {
		begin, b uint64
		want     int
	}{
		{8, 0, api.Hidden}, {two, 0, api.Hidden}, {two, aborted, api.Hidden}, {two, preparing + 8, api.Hidden}, {two, committed + 8, api.Hidden},
		{two, preparing + 7, api.Unsure}, // it is not said to have begun, so its end is not asked
	} {
		for _, end := range []struct{ end, e uint64 }{
			{word.Never, 0}, {0, 0}, {7, 0}, {9, 0}, {one, 0},
			{four, 0}, {four, aborted}, {four, preparing + 6}, {four, preparing + 9}, {four, committed + 6}, {four, committed + 9},
		} {
			checkSees(t, 1, 7, x.begin, end.end, x.b, end.e, x.want)
		}
	}
}

func TestWordsGoThereAndBack(t *testing.T) { // P5.4
	said := map[uint64]bool{word.Never: true}
	for _, at := range []int64{0, 1, 2, 5, 1 << 20, 1<<20 - 1, 1 << 32, lastTime - 1, lastTime} {
		w, e := word.Time(at)
		gotAt, txn, ok := word.Parts(w)
		if e != api.OK || gotAt != at || txn != 0 || !ok || said[w] {
			t.Errorf("the timestamp %d: %x %v, back %d %d %v, taken %v", at, w, e, gotAt, txn, ok, said[w])
		}
		said[w] = true
	}
	for txn := 1; txn <= lastTxn; txn += 37 {
		w, e := word.Owner(txn)
		at, gotTxn, ok := word.Parts(w)
		if e != api.OK || at != 0 || gotTxn != txn || !ok || said[w] {
			t.Errorf("the owner %d: %x %v, back %d %d %v, taken %v", txn, w, e, at, gotTxn, ok, said[w])
		}
		said[w] = true
	}
}

func TestStatesGoThereAndBack(t *testing.T) { // P5.4
	said := map[uint64]bool{}
	for state := api.Active; state <= api.Aborted; state++ {
		for _, at := range []int64{0, 1, 5, 1 << 20, 1 << 39, lastTime - 1, lastTime} {
			w, e := word.State(state, at)
			if e != api.OK {
				continue
			}
			gotState, gotAt, ok := word.Unstate(w)
			if gotState != state || gotAt != at || !ok || said[w] {
				t.Errorf("the state %d at %d: %x, back %d %d %v, taken %v", state, at, w, gotState, gotAt, ok, said[w])
			}
			said[w] = true
		}
	}
	if len(said) != 16 {
		t.Errorf("%d state words, not 16", len(said))
	}
}

// heard are the ways in which a timestamp stands in a version's words: as itself, or as that of another transaction which has committed.
func heard(at int64, txn uint64) [][2]uint64 {
	return [][2]uint64{{uint64(at), 0}, {top + txn, committed + uint64(at)}}
}

func TestTimesAtWhichAVersionIsSeen(t *testing.T) { // P5.4: from its begin on and below its end
	times := []int64{0, 1, 2, 3, 4, 5, lastTime - 2, lastTime - 1, lastTime}
	for _, from := range times {
		for _, to := range append(times, api.MaxTime) {
			ends := [][2]uint64{{word.Never, 0}, {top + 8, 0}, {top + 8, aborted}}
			if to != api.MaxTime {
				ends = heard(to, 8)
			}
			for _, at := range times {
				want := api.Hidden
				if from <= at && at < to {
					want = api.Seen
				}
				for _, begin := range heard(from, 9) {
					for _, end := range ends {
						checkSees(t, 0, at, begin[0], end[0], begin[1], end[1], want)
						checkSees(t, 1, at, begin[0], end[0], begin[1], end[1], want)
					}
				}
			}
		}
	}
}

func TestWhatBecomesOfUnsure(t *testing.T) { // P5.4: the transaction 2 is Preparing at a time, then it is done
	const one, two = top + 1, top + 2
	for _, when := range []uint64{0, 4, 6, 7, 8, 9, lastTime} {
		for _, x := range []struct {
			begin, end uint64
		}{
			{two, word.Never}, {two, 5}, {two, 7}, {two, 8}, {two, one}, {two, two},
			{0, two}, {5, two}, {7, two}, {8, two}, {one, two},
		} {
			sees := func(state uint64) int {
				t.Helper()
				got, e := word.Sees(1, 7, x.begin, x.end, state, state)
				if e != api.OK {
					t.Errorf("Sees(1, 7, %x, %x, %x, the same): %v", x.begin, x.end, state, e)
				}
				return got
			}
			now, then, never := sees(preparing+when), sees(committed+when), sees(aborted)
			if then == api.Unsure || never == api.Unsure {
				t.Errorf("Sees(1, 7, %x, %x) is Unsure, though the transaction, at %d, is done: %d %d", x.begin, x.end, when, then, never)
			}
			if now != api.Unsure && (then != now || never != now) {
				t.Errorf("Sees(1, 7, %x, %x) is %d, by a Preparing one at %d; then %d or %d", x.begin, x.end, now, when, then, never)
			}
		}
	}
	if sees, _ := word.Sees(1, 7, two, word.Never, preparing+6, 0); sees != api.Unsure {
		t.Errorf("nothing was Unsure: %d", sees)
	}
}

func TestWhatBecomesOfUnsureByTwo(t *testing.T) { // P5.4: 2 has begun the version, 3 has ended it, and both are Preparing
	const two, three = top + 2, top + 3
	for _, first := range []uint64{0, 6, 7, 8} {
		for _, last := range []uint64{0, 6, 7, 8} {
			now, _ := word.Sees(1, 7, two, three, preparing+first, preparing+last)
			for _, b := range []uint64{committed + first, aborted} {
				for _, e := range []uint64{committed + last, aborted} {
					then, code := word.Sees(1, 7, two, three, b, e)
					if code != api.OK || then == api.Unsure || now != api.Unsure && then != now {
						t.Errorf("Preparing at %d and %d: %d; then, by %x and %x: %d %v", first, last, now, b, e, then, code)
					}
				}
			}
		}
	}
}
