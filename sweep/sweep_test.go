package sweep_test

import (
	"math"
	"slices"
	"testing"

	"varve/sweep"
)

const (
	never     uint64 = 1 << 40
	lastTime  uint64 = 1<<40 - 1
	owner1    uint64 = 1<<63 + 1
	lastOwner uint64 = 1<<63 + 1<<20 - 1
	least     int64  = math.MinInt64
	greatest  int64  = math.MaxInt64
)

// noWords are numbers around the words that are none.
func noWords() []uint64 {
	return []uint64{1<<40 + 1, 1<<63 - 1, 1 << 63, 1<<63 + 1<<20, 1<<64 - 1}
}

func list[T any](l ...T) []T { return l }

// P15.1
func TestWatermark(t *testing.T) {
	for _, x := range []struct {
		now    int64
		begins []int64
		want   int64
	}{
		{9, list[int64](4, 7), 4},
		{3, nil, 3},
		{3, []int64{}, 3},
		{9, list[int64](9), 9},
		{9, list[int64](10), 9},
		{9, list[int64](8), 8},
		{9, list[int64](1, 5, 7), 1},
		{9, list[int64](5, 1, 7), 1},
		{9, list[int64](5, 7, 1), 1},
		{2, list[int64](5, 7, 3), 2},
		{0, list[int64](0, 0), 0},
		{0, list[int64](4, -3, 2), -3},
		{-4, list[int64](-3, 0), -4},
		{-4, list[int64](-5, -7, -6), -7},
		{-4, nil, -4},
		{greatest, nil, greatest},
		{least, nil, least},
		{greatest, list(greatest, greatest), greatest},
		{greatest, list(greatest, least, 0), least},
		{0, list(greatest, least), least},
		{0, list(greatest), 0},
		{least, list(greatest, 0), least},
		{1 << 40, list[int64](1<<40+1, 1<<41), 1 << 40},
	} {
		if got := sweep.Watermark(x.now, x.begins); got != x.want {
			t.Errorf("Watermark(%d, %d): %d, not %d", x.now, x.begins, got, x.want)
		}
	}
}

type keepCase struct {
	what         string
	begins, ends []uint64
	mark         int64
	want         int
}

func (x keepCase) check(t *testing.T) {
	t.Helper()
	if got := sweep.Keep(x.begins, x.ends, x.mark); got != x.want {
		t.Errorf("%s: Keep(%d, %d, %d): %d, not %d", x.what, x.begins, x.ends, x.mark, got, x.want)
	}
}

// P15.1: the chapter's examples, and a chain at each mark around its times.
func TestKeepOfChains(t *testing.T) {
	begins, ends := list[uint64](8, 5, 2), list(never, 8, 5)
	for mark, want := range []int{3, 3, 3, 3, 3, 2, 2, 2, 1, 1, 1} {
		keepCase{"three in order", begins, ends, int64(mark), want}.check(t)
	}
	for mark, want := range []int{3, 3, 3, 3, 3, 2, 2, 2, 1, 0, 0} {
		keepCase{"the newest ends, too", begins, list[uint64](9, 8, 5), int64(mark), want}.check(t)
	}
	// Between 4 and 6 there was no row.
	for mark, want := range []int{2, 2, 2, 2, 1, 1, 1, 1} {
		keepCase{"a gap", list[uint64](6, 2), list(never, 4), int64(mark), want}.check(t)
	}
	for _, x := range []keepCase{
		{"an example", list[uint64](5, 2), list[uint64](7, 5), 7, 0},
		{"an example", list(owner1, 5), list(never, owner1), 9, 2},
		{"none", nil, nil, 5, 0},
		{"none", []uint64{}, nil, 5, 0},
		{"none", nil, []uint64{}, 5, 0},
		{"one", list[uint64](5), list(never), 5, 1},
		{"one", list[uint64](5), list(never), 4, 1},
		{"one that ends at the mark", list[uint64](5), list[uint64](7), 7, 0},
		{"one that ends above the mark", list[uint64](5), list[uint64](7), 6, 1},
		{"one that ends below the mark", list[uint64](5), list[uint64](7), 8, 0},
		{"one whose end is come, but whose begin is not", list[uint64](5), list[uint64](3), 4, 1},
		{"only the first counts", list[uint64](9, 5, 4, 3), list(never, 9, 5, 4), 6, 2},
		{"only the first one's end counts", list[uint64](9, 5, 4), list[uint64](2, never, 1), 6, 2},
		{"the first one's end is come, those behind it do not end", list[uint64](9, 5, 4), list(never, 6, never), 6, 1},
		{"the first one behind later ones that are come by their ends", list[uint64](9, 8, 5), list[uint64](1, 1, never), 6, 3},
		{"in no order", list[uint64](2, 8, 5), list(never, 3, 4), 6, 1},
		{"at 0", list[uint64](1, 0), list[uint64](never, 1), 0, 2},
		{"from 0 to 0", list[uint64](1, 0), list[uint64](never, 0), 0, 1},
	} {
		x.check(t)
	}
}

// P15.1: as many as the shorter list has.
func TestKeepOfUnequalLists(t *testing.T) {
	for _, x := range []keepCase{
		{"no ends", list[uint64](8, 5, 2), nil, 6, 0},
		{"no begins", nil, list(never, 8, 5), 6, 0},
		{"begins are fewer, none is come", list[uint64](8), list(never, 8, 5), 6, 1},
		{"begins are fewer, the last is come", list[uint64](8, 5), list(never, 8, 5), 6, 2},
		{"begins are fewer, the first is come", list[uint64](5, 4), list(never, 5, 4), 6, 1},
		{"ends are fewer, none is come", list[uint64](8, 5, 2), list(never), 6, 1},
		{"ends are fewer, the last is come", list[uint64](8, 5, 2), list(never, 8), 6, 2},
		{"ends are fewer, the last is come and gone", list[uint64](8, 5, 2), list[uint64](never, 6), 6, 1},
		{"ends are fewer, the first one that is come is behind them", list[uint64](9, 8, 7, 2), list(never, 9, 8), 6, 3},
	} {
		x.check(t)
	}
	begins, ends := list[uint64](9, 8, 7, 6)[:2], list(never, 9, 8, 7)
	keepCase{"what stands in the spare room", begins, ends, 6, 2}.check(t)
	keepCase{"what stands in the spare room", ends, begins, 8, 2}.check(t)
}

// P15.1: owners, Never and what is no word are no timestamps, whatever the mark.
func TestKeepOfOtherWords(t *testing.T) {
	others := append(noWords(), owner1, lastOwner, never)
	for _, w := range others {
		for _, mark := range []int64{least, -1, 0, 6, 1<<40 - 1, 1 << 40, 1<<40 + 1, greatest} {
			keepCase{"a begin that is no timestamp", list(w), list(never), mark, 1}.check(t)
			keepCase{"a begin that is no timestamp, and an end that is come", list(w), list[uint64](0), mark, 1}.check(t)
			keepCase{"an end that is no timestamp", list[uint64](0), list(w), mark, 1}.check(t)
		}
		for _, mark := range []int64{6, 1<<40 - 1, 1 << 40, greatest} {
			keepCase{"behind one that has not begun", list(w, 5, 2), list(never, w, 5), mark, 2}.check(t)
			keepCase{"behind one that has not begun, ended", list(w, 5, 2), list[uint64](never, 6, 5), mark, 1}.check(t)
			keepCase{"an end that is no timestamp", list[uint64](5, 2), list(w, 5), mark, 1}.check(t)
		}
	}
	for _, x := range []keepCase{
		{"the greatest timestamp", list(lastTime, 5), list(never, lastTime), 1<<40 - 1, 1},
		{"the greatest timestamp", list(lastTime, 5), list(never, lastTime), 1<<40 - 2, 2},
		{"the greatest timestamp, ended", list(lastTime, 5), list(lastTime, lastTime), 1<<40 - 1, 0},
		{"a mark above all times", list(lastTime, 5), list(never, lastTime), 1 << 40, 1},
		{"the greatest mark", list[uint64](8, 5), list(never, 8), greatest, 1},
		{"the greatest mark, ended", list[uint64](8, 5), list[uint64](9, 8), greatest, 0},
		{"the least mark", list[uint64](8, 5, 0), list[uint64](9, 8, 0), least, 3},
		{"a mark below 0", list[uint64](8, 5, 0), list[uint64](9, 8, 0), -1, 3},
		{"owners above one another", list(lastOwner, owner1, 5, 4), list(never, lastOwner, owner1, 5), 9, 3},
	} {
		x.check(t)
	}
}

// plainKeep counts the versions of which the section 'Words' says that they stay, each by itself.
func plainKeep(begins, ends []uint64, mark int64) int {
	come := func(w uint64) bool { return w < 1<<40 && mark >= 0 && w <= uint64(mark) }
	stay := 0
	for i := range min(len(begins), len(ends)) {
		behind := slices.ContainsFunc(begins[:i], come)
		over := come(begins[i]) && come(ends[i])
		if !behind && !over {
			stay++
		}
	}
	return stay
}

// P15.1: each chain of up to two versions with words of all kinds, at marks of all kinds.
func TestKeepAgainstThePlainOne(t *testing.T) {
	words := append(noWords(), 0, 5, 6, 7, lastTime, never, owner1, lastOwner)
	marks := []int64{least, -6, -1, 0, 4, 5, 6, 7, 8, 1<<40 - 2, 1<<40 - 1, 1 << 40, 1<<40 + 1, greatest - 1, greatest}
	check := func(begins, ends []uint64) {
		for _, mark := range marks {
			if got, want := sweep.Keep(begins, ends, mark), plainKeep(begins, ends, mark); got != want {
				t.Fatalf("Keep(%d, %d, %d): %d, not %d", begins, ends, mark, got, want)
			}
		}
	}
	for _, a := range words {
		check(list(a), nil)
		check(nil, list(a))
		for _, b := range words {
			check(list(a), list(b))
			for _, c := range words {
				check(list(a, b), list(c))
				check(list(a), list(b, c))
				for _, d := range words {
					check(list(a, b), list(c, d))
				}
			}
		}
	}
}

// R3: what is handed in is left as it was, its spare room, too.
func TestListsAreLeft(t *testing.T) {
	begins, ends := list[uint64](8, 5, 2, 77, 78), list[uint64](never, 8, 5, 79, 80)
	sweep.Keep(begins[:3], ends[:3], 6)
	if !slices.Equal(begins, list[uint64](8, 5, 2, 77, 78)) || !slices.Equal(ends, list[uint64](never, 8, 5, 79, 80)) {
		t.Error(begins, ends)
	}
	times := list[int64](4, 7, 1, 77)
	sweep.Watermark(9, times[:3])
	if !slices.Equal(times, list[int64](4, 7, 1, 77)) {
		t.Error(times)
	}
}
