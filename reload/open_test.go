package reload_test

import (
	"fmt"
	"slices"
	"testing"

	"varve/api"
	"varve/disk"
	"varve/reload"
	"varve/wal"
)

// P16.2: what Open tells.

func TestOpen(t *testing.T) {
	opens(t, "some", files(some()), someState(), 5)
	opens(t, "beside others", files(with(with(with(some(), "manifest.new", nil), "data-7", []byte("x")), "log-0", nil)), someState(), 5)
	opens(t, "behind others", files(with(some(), "log-1", []byte("whatever"))), someState(), 5)
	alone := someState()
	alone.Rows, alone.Times, alone.Time = alone.Base, nil, 12
	opens(t, "the log has nothing", files(with(without(some(), "log-4"), "log-3", segment(3, 7))), alone, 4)
	opens(t, "the log has no byte", files(with(without(some(), "log-4"), "log-3", nil)), alone, 4)
	opens(t, "the log has what is left out", files(with(without(some(), "log-4"), "log-3", segment(3, 7, commit(12, gone("a")), commit(12, gone("b")), commit(1)))), alone, 4)
	empty := without(some(), "log-4")
	m := manifest(3)
	log := map[string][]byte{"manifest": manifestFile(m), "log-3": empty["log-3"]}
	opens(t, "no pairs", files(log), reload.State{
		Manifest: m,
		Rows:     rows(row("c", "v", 14)),
		Times:    []int64{11, 13, 14},
		Time:     14,
	}, 4)
}

// Without a manifest the log counts from its first segment on, if it has one.
func TestOpenWithoutManifest(t *testing.T) {
	first := reload.State{Manifest: manifest(1)}
	opens(t, "nothing", disk.New(), first, 1)
	opens(t, "a manifest that is being made", files(map[string][]byte{"manifest.new": manifestFile(manifest(2, 9))}), first, 1)
	opens(t, "pairs alone", files(without(some(), "manifest", "log-3", "log-4")), first, 1)
	opens(t, "an empty segment", files(map[string][]byte{"log-1": nil}), first, 2)
	two := reload.State{
		Manifest: manifest(1),
		Rows:     rows(row("a", "y", 3), row("b", "", 1)),
		Times:    []int64{1, 2, 3},
		Time:     3,
	}
	opens(t, "two segments", files(map[string][]byte{
		"log-1": segment(1, 0, commit(2, set("a", "x")), commit(1, set("b", "")), commit(0, set("c", "0"))),
		"log-2": segment(2, 5, commit(3, set("a", "y"))),
	}), two, 3)
	refusesAsItWas(t, "log-2 alone", files(map[string][]byte{"log-2": segment(2, 0)}), api.ErrReloadCorrupt)
}

// The log goes on where the disk's ends, and what it flushes is told by whoever opens the disk then.
func TestOpenGoesOn(t *testing.T) {
	d := files(some())
	want := someState()
	for n := range 5 {
		l := opens(t, fmt.Sprint("life ", n), d, want, 5+n)
		at := want.Time + 3
		if ticket, e := l.Put(commit(at, gone("b"), set("e", fmt.Sprint(n)))); ticket != 1 || e != api.OK {
			t.Fatal(ticket, e)
		}
		if l.Flushed() != 0 {
			t.Fatal(l.Flushed())
		}
		for i := range 4 {
			if done, e := l.Flush(); done != (i == 3) || e != api.OK {
				t.Fatal(i, done, e)
			}
		}
		want.Rows = rows(row("c", "v", 14), row("d", "", 12), row("e", fmt.Sprint(n), at))
		want.Times, want.Time = append(want.Times, at), at
	}
}

// Open again, of the same disk, tells the same state.
func TestOpenAgain(t *testing.T) {
	d := files(some())
	for n := range api.MaxFiles - len(some()) {
		opens(t, fmt.Sprint("again ", n), d, someState(), 5+n)
	}
	refusesOpen(t, "no room", d, api.ErrDiskFull)
	d = files(some())
	for n := range 20 {
		opens(t, fmt.Sprint("crash ", n), d, someState(), 5+n)
		d = d.Crash(api.Fate{})
	}
}

// The lists of a state share no memory, neither with one another nor with what a later Open tells.
func TestOpenMemory(t *testing.T) {
	for what, has := range map[string]map[string][]byte{"some": some(), "nothing is replayed": with(without(some(), "log-4"), "log-3", nil)} {
		d := files(has)
		want, _, _ := reload.Open(copied(d))
		for turn := range 4 {
			s, _, e := reload.Open(copied(d))
			if e != api.OK || !sameStates(s, want) {
				t.Fatalf("%s: %s, %v", what, told(s), e)
			}
			fill(&s, turn)
			other, _, _ := reload.Open(copied(d))
			if !sameStates(other, want) {
				t.Errorf("%s: two answers share memory: %s", what, told(other))
			}
			// What was not filled is as it was.
			if turn != 0 && !slices.Equal(s.Rows, want.Rows) || turn != 1 && !slices.Equal(s.Base, want.Base) ||
				turn != 2 && !slices.Equal(s.Times, want.Times) || turn != 3 && !sameManifests(s.Manifest, want.Manifest) {
				t.Errorf("%s: lists share memory: %s", what, told(s))
			}
		}
	}
}

// fill writes over one of a state's lists, up to the end of its room.
func fill(s *reload.State, which int) {
	over := func(list []api.Row) {
		list = list[:cap(list)]
		for i := range list {
			list[i] = row("q", "q", 77)
		}
	}
	switch which {
	case 0:
		over(s.Rows)
	case 1:
		over(s.Base)
	case 2:
		times := s.Times[:cap(s.Times)]
		for i := range times {
			times[i] = 77
		}
	case 3:
		all := s.Manifest.Pairs[:cap(s.Manifest.Pairs)]
		for i := range all {
			all[i].To = 77
		}
	}
}

// A state that was answered stays as it is, whatever becomes of the disk.
func TestOpenKeepsNothing(t *testing.T) {
	d := files(some())
	s, l, _ := reload.Open(d)
	for name := range some() {
		d.Poke(name, 40, 0xee)
	}
	l.Put(commit(30, gone("b")))
	l.Flush()
	if !sameStates(s, someState()) {
		t.Error(told(s))
	}
}

// P16.2: what Open refuses, in its order.

func TestOpenNil(t *testing.T) {
	refusesOpen(t, "nil", nil, api.ErrNil)
}

func TestOpenOff(t *testing.T) {
	off := func(d *disk.Disk) *disk.Disk {
		d.CutAt(0)
		d.SyncDir()
		return d
	}
	refusesAsItWas(t, "a new disk", off(disk.New()), api.ErrDiskOff)
	refusesAsItWas(t, "some", off(files(some())), api.ErrDiskOff)
	refusesAsItWas(t, "ahead of what is corrupt", off(files(with(some(), "manifest", nil))), api.ErrDiskOff)
	refusesAsItWas(t, "ahead of a segment that is missing", off(files(without(some(), "log-3", "log-4"))), api.ErrDiskOff)
}

// The power goes at one of the three operations by which another segment is begun.
func TestOpenCut(t *testing.T) {
	for what, has := range map[string]map[string][]byte{"nothing": {}, "some": some()} {
		want := reload.State{Manifest: manifest(1)}
		if len(has) > 0 {
			want = someState()
		}
		for at := range 3 {
			d := files(has)
			d.CutAt(at)
			refusesOpen(t, fmt.Sprint(what, ", cut at ", at), d, api.ErrDiskOff)
			if d.Ops() != at {
				t.Errorf("%s: %d operations, cut at %d", what, d.Ops(), at)
			}
			for keep := range 40 {
				for dirs := range 2 {
					for _, tear := range []int{0, 1, 5} {
						left := d.Crash(api.Fate{Keep: keep, Dirs: dirs, Tear: tear})
						if s, _, e := reload.Open(left); e != api.OK || !sameStates(s, want) {
							t.Fatalf("%s, cut at %d, %d %d %d: %s, %v", what, at, keep, dirs, tear, told(s), e)
						}
					}
				}
			}
		}
		d := files(has)
		d.CutAt(3)
		if s, _, e := reload.Open(d); e != api.OK || !sameStates(s, want) {
			t.Errorf("%s, cut behind it: %s, %v", what, told(s), e)
		}
	}
}

// ckpt.Load's ErrCkptCorrupt is told as ErrReloadCorrupt.
func TestOpenCorruptPairs(t *testing.T) {
	p := manifest(3, 9, 12).Pairs
	for what, has := range map[string]map[string][]byte{
		"an empty manifest":        with(some(), "manifest", nil),
		"half a manifest":          with(some(), "manifest", some()["manifest"][:16]),
		"a byte of the manifest":   with(some(), "manifest", turned(some()["manifest"], 18)),
		"another manifest":         with(some(), "manifest", manifestFile(manifest(3, 9, 13))),
		"no data-1":                without(some(), "data-1"),
		"no delta-2":               without(some(), "delta-2"),
		"a byte of data-1":         with(some(), "data-1", turned(some()["data-1"], 40)),
		"a byte of delta-1":        with(some(), "delta-1", turned(some()["delta-1"], 3)),
		"a row ahead of its pair":  with(some(), "data-2", dataFile(p[1], row("a", "z", 9), row("d", "", 12))),
		"a row that was not there": with(some(), "delta-2", deltaFile(p[1], api.Gone{Key: "a", Time: 4})),
		"a key that is there":      with(some(), "delta-2", deltaFile(p[1])),
	} {
		refusesAsItWas(t, what, files(has), api.ErrReloadCorrupt)
		refusesAsItWas(t, what+", without the log", files(without(has, "log-3", "log-4")), api.ErrReloadCorrupt)
		refusesAsItWas(t, what+", without room", files(filled(has)), api.ErrReloadCorrupt)
	}
}

// A manifest's segment must be there, behind all that ckpt.Load tells, ahead of all that wal.Open tells.
func TestOpenMissingSegment(t *testing.T) {
	refusesAsItWas(t, "both are missing", files(without(some(), "log-3", "log-4")), api.ErrReloadCorrupt)
	refusesAsItWas(t, "the first one", files(without(some(), "log-3")), api.ErrReloadCorrupt)
	refusesAsItWas(t, "elder ones are there", files(with(with(without(some(), "log-3", "log-4"), "log-1", nil), "log-2", segment(2, 3))), api.ErrReloadCorrupt)
	refusesAsItWas(t, "another name", files(with(without(some(), "log-3", "log-4"), "log-03", segment(3, 3))), api.ErrReloadCorrupt)
	refusesAsItWas(t, "without pairs", files(map[string][]byte{"manifest": manifestFile(manifest(1))}), api.ErrReloadCorrupt)
	refusesAsItWas(t, "ahead of ErrDiskFull", files(filled(without(some(), "log-3", "log-4"))), api.ErrReloadCorrupt)
	for _, log := range []int{mostFirst, mostFirst + 1, lastLog} {
		refusesAsItWas(t, fmt.Sprint("log-", log), files(map[string][]byte{"manifest": manifestFile(manifest(log))}), api.ErrReloadCorrupt)
	}
	d := files(without(some(), "log-3", "log-4"))
	d.CutAt(0)
	refusesAsItWas(t, "ahead of a cut", d, api.ErrReloadCorrupt)
	opens(t, "without a manifest", files(without(some(), "manifest", "log-3", "log-4")), reload.State{Manifest: manifest(1)}, 1)
}

// wal.Open's errors; ErrWalCorrupt is told as ErrReloadCorrupt.
func TestOpenCorruptLog(t *testing.T) {
	for what, has := range map[string]map[string][]byte{
		"a gap":                 with(some(), "log-6", segment(6, 50)),
		"a byte of a commit":    with(some(), "log-3", turned(some()["log-3"], 40)),
		"a byte of the first":   with(some(), "log-3", turned(some()["log-3"], 5)),
		"another number":        with(some(), "log-4", segment(4, 46)),
		"a lesser number":       with(some(), "log-4", segment(4, 44)),
		"another segment":       with(some(), "log-4", segment(5, 45)),
		"no commit":             with(some(), "log-4", frames(45, []byte("L\x04"), []byte("x"))),
		"a commit of no record": with(some(), "log-4", frames(45, []byte("L\x04"), []byte("C\x0d\x01\x01\x00"))),
	} {
		refusesAsItWas(t, what, files(has), api.ErrReloadCorrupt)
		refusesAsItWas(t, what+", without room", files(filled(has)), api.ErrReloadCorrupt)
		d := files(has)
		d.CutAt(0)
		refusesAsItWas(t, what+", ahead of a cut", d, api.ErrReloadCorrupt)
	}
}

func TestOpenNoRoom(t *testing.T) {
	refusesAsItWas(t, "no room for a file", files(filled(some())), api.ErrDiskFull)
	refusesAsItWas(t, "of a disk without a log", files(filled(map[string][]byte{})), api.ErrDiskFull)
	for left := range 4 {
		d := files(some())
		for range api.MaxOps - left {
			d.SyncDir()
		}
		if left == 3 {
			opens(t, "three operations", d, someState(), 5)
			continue
		}
		refusesOpen(t, fmt.Sprint(left, " operations"), d, api.ErrDiskFull)
	}
}

// The greatest segments: wal.Open takes no Log above 2^30, and its error is answered as it is.
func TestOpenGreatestLog(t *testing.T) {
	with := func(log int) *disk.Disk {
		return files(map[string][]byte{"manifest": manifestFile(manifest(log)), wal.Name(log): segment(log, 3, commit(1, set("a", "x")))})
	}
	opens(t, "the last", with(mostFirst), reload.State{Manifest: manifest(mostFirst), Rows: rows(row("a", "x", 1)), Times: []int64{1}, Time: 1}, mostFirst+1)
	refusesAsItWas(t, "one more", with(mostFirst+1), api.ErrArg)
	refusesAsItWas(t, "the greatest", with(lastLog), api.ErrArg)
}

// Replay's error is told, too: two commits of one Time above the manifest's; wal.Open's errors come first.
func TestOpenOneTime(t *testing.T) {
	twice := func() map[string][]byte {
		return with(some(), "log-4", segment(4, 45, commit(13, set("q", ""))))
	}
	d := files(twice())
	for range 3 {
		refusesOpen(t, "two of 13", d, api.ErrReloadCorrupt)
	}
	refusesOpen(t, "in one segment", files(with(without(some(), "log-4"), "log-3", segment(3, 0, commit(13), commit(13)))), api.ErrReloadCorrupt)
	refusesOpen(t, "without a manifest", files(map[string][]byte{"log-1": segment(1, 0, commit(1), commit(2), commit(1))}), api.ErrReloadCorrupt)
	refusesAsItWas(t, "no room", files(filled(twice())), api.ErrDiskFull)
	d = files(twice())
	d.CutAt(1)
	refusesOpen(t, "a cut", d, api.ErrDiskOff)
	want := someState()
	opens(t, "two of 12", files(with(some(), "log-3", segment(3, 40, commit(12, gone("b")), commit(14, gone("a"), set("c", "v")), commit(13, set("a", "w"))))), want, 5)
}
