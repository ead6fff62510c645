package wal_test

import (
	"fmt"
	"math/rand"
	"testing"

	"varve/api"
	"varve/disk"
	"varve/wal"
)

// life is what was done with a log up to an error of its disk: what was put, and how much of it was flushed.
type life struct {
	put     []api.Commit
	flushed int
}

// doing is a thing that is done with a log; false: an error came, and the life is over.
type doing func(l *wal.Log, lf *life) bool

func putting(c api.Commit) doing {
	return func(l *wal.Log, lf *life) bool {
		_, e := l.Put(c)
		if e == api.OK {
			lf.put = append(lf.put, c)
		}
		return e == api.OK
	}
}

func flushing(l *wal.Log, _ *life) bool {
	_, e := l.Flush()
	return e == api.OK
}

func rotating(l *wal.Log, _ *life) bool {
	_, e := l.Rotate()
	return e == api.OK
}

// several is a life with groups of one, of many, with what is put meanwhile, and rotations at rest and within a group.
func several(at int64) []doing {
	f := doing(flushing)
	return []doing{
		putting(right(at)), f, f, f, f,
		putting(right(at + 1)), putting(long(at + 2)), putting(right(at + 3)), f, putting(long(at + 4)), f, f, f, f, f,
		putting(right(at + 5)), rotating, putting(right(at + 6)), f, f, f, f,
		rotating,
		putting(long(at + 7)), putting(right(at + 8)), f, f, f, f, putting(right(at + 9)), f, f,
	}
}

// lives opens a log and does what is to be done until an error comes.
func lives(d *disk.Disk, do []doing) life {
	var lf life
	l, _, e := wal.Open(d, 1)
	if e != api.OK {
		return lf
	}
	for _, x := range do {
		if !x(l, &lf) {
			break
		}
	}
	lf.flushed = l.Flushed()
	return lf
}

// lasts: what a disk tells is what the lives ahead have told, and of the last one a beginning with all that was flushed. How many commits that is, is answered.
func lasts(t *testing.T, what string, d *disk.Disk, told []api.Commit, lf life) int {
	t.Helper()
	_, commits, e := wal.Open(d, 1)
	if e != api.OK {
		t.Fatalf("%s: Open: %v", what, e)
	}
	more := len(commits) - len(told)
	if more < lf.flushed || more > len(lf.put) || !sameCommits(commits[:len(told)], told) || !sameCommits(commits[len(told):], lf.put[:more]) {
		t.Fatalf("%s: %d commits behind %d; %d were put and %d flushed", what, len(commits), len(told), len(lf.put), lf.flushed)
	}
	return more
}

// opsOf is how many operations a life takes.
func opsOf(do []doing) int {
	d := disk.New()
	lives(d, do)
	return d.Ops()
}

// What was flushed lasts: at every operation, whatever stays and is torn.
func TestCrashAnywhere(t *testing.T) {
	do := several(1)
	all := opsOf(do)
	if all != 31 {
		t.Fatal(all)
	}
	partly := 0
	for at := range all + 1 {
		d := disk.New()
		d.CutAt(at)
		lf := lives(d, do)
		for dirs := range 3 {
			for keep := range 340 {
				if keep > 70 && keep%5 > 1 {
					continue
				}
				for _, tear := range []int{0, 1, 2, 31, 32, 33, 64, lots} {
					f := api.Fate{Keep: keep, Dirs: dirs, Tear: tear}
					more := lasts(t, fmt.Sprint("cut at ", at, " ", f), d.Crash(f), nil, lf)
					partly += btoi(more > lf.flushed && more < len(lf.put))
				}
			}
		}
	}
	if partly == 0 {
		t.Fatal("no crash has left a part of a group")
	}
}

// The same again and again: what was put behind a crash stands behind what the disk told then.
func TestCrashAgain(t *testing.T) {
	draw := rand.New(rand.NewSource(8))
	do := several(1)
	all := opsOf(do)
	fate := func() api.Fate {
		return api.Fate{Keep: draw.Intn(400) * draw.Intn(2), Dirs: draw.Intn(3), Tear: draw.Intn(80) * draw.Intn(2)}
	}
	for round := range 3000 {
		d := disk.New()
		var told []api.Commit
		for n := range 2 + draw.Intn(8) {
			d.CutAt(draw.Intn(all + 2))
			lf := lives(d, several(int64(100*n+1)))
			left := d.Crash(fate())
			more := lasts(t, fmt.Sprint("round ", round, ", life ", n), copied(left), told, lf)
			told = append(told, lf.put[:more]...)
			d = left
		}
	}
}

// What was flushed lasts when elder segments are dropped, too, whichever deletions stay.
func TestCrashDrop(t *testing.T) {
	dropping := func(l *wal.Log, _ *life) bool {
		_, e := l.Drop(3)
		return e == api.OK
	}
	do := []doing{
		putting(right(1)), flushing, flushing, flushing, flushing, rotating,
		putting(right(2)), flushing, rotating, // log-3 is begun
		putting(right(3)), flushing, dropping, flushing, dropping, flushing, dropping, flushing,
		rotating, putting(right(4)), flushing, flushing, flushing, flushing,
	}
	all := opsOf(do)
	for at := 17; at <= all; at++ { // log-3 lasts from here on
		d := disk.New()
		d.CutAt(at)
		lf := lives(d, do)
		for dirs := range 4 {
			for keep := range 70 {
				for _, tear := range []int{0, 1, 32} {
					left := d.Crash(api.Fate{Keep: keep, Dirs: dirs, Tear: tear})
					_, commits, e := wal.Open(left, 3)
					if e != api.OK || len(commits) < lf.flushed-2 || len(commits) > len(lf.put)-2 || !sameCommits(commits, lf.put[2:2+len(commits)]) {
						t.Fatalf("cut at %d, %d %d %d: %s, %v", at, keep, dirs, tear, told(commits), e)
					}
				}
			}
		}
	}
}

// What is poked is told: each byte of each segment of a log of which all is flushed, by each other byte.
func TestPoke(t *testing.T) {
	f := doing(flushing)
	for name, do := range map[string][]doing{
		"nothing":    {},
		"a commit":   {putting(right(1)), f, f, f, f},
		"rotated":    {rotating, rotating},
		"one behind": {putting(right(1)), f, f, f, f, rotating},
		"several":    {putting(right(1)), putting(api.Commit{Time: 2}), f, f, f, f, putting(right(3)), f, f, f, f, rotating, rotating, putting(long(4)), f, f, f, f},
	} {
		d := disk.New()
		lf := lives(d, do)
		if lf.flushed != len(lf.put) {
			t.Fatal(name, lf)
		}
		corrupt := 0
		for _, file := range d.Names() {
			for at, was := range read(t, d, file) {
				for x := range 256 {
					poked := copied(d)
					poked.Poke(file, at, byte(x))
					_, commits, e := wal.Open(poked, 1)
					if e == api.ErrWalCorrupt && byte(x) != was && len(commits) == 0 {
						corrupt++
						continue
					}
					if e != api.OK || !sameCommits(commits, lf.put) {
						t.Fatalf("%s, %s at %d by %x: %s, %v", name, file, at, x, told(commits), e)
					}
				}
			}
		}
		if (corrupt == 0) != (len(d.Names()) == 1 && len(do) == 0) {
			t.Errorf("%s: %d bytes were told", name, corrupt)
		}
	}
}

// A seal lets a byte of the last commit be told, as it lets none be lost.
func TestPokeOfTheLastCommit(t *testing.T) {
	d := disk.New()
	lf := lives(d, []doing{putting(right(1)), flushing, flushing, flushing, flushing})
	poked := copied(d)
	poked.Poke("log-1", 50, 0xff)
	refusesOpen(t, "its commit", poked, 1, api.ErrWalCorrupt)
	poked = copied(d)
	poked.Poke("log-1", 70, 0xff)
	opens(t, "its seal", poked, 1, lf.put, 2, 2)
}
