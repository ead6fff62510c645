package reload_test

import (
	"fmt"
	"math/rand"
	"slices"
	"strings"
	"testing"

	"varve/api"
	"varve/ckpt"
	"varve/disk"
	"varve/merge"
	"varve/reload"
	"varve/wal"
)

// life is what is done with a disk from an Open up to an error.
type life struct {
	d         *disk.Disk
	l         *wal.Log
	all       []api.Commit   // what the disk has told, and behind it what was put
	had       int            // how many of them the disk has told
	manifests []api.Manifest // the disk's, and those that were to be put in its place
	made      int            // the last one of them that is done
}

// doing is a thing that is done in a life; false: an error came, and the life is over.
type doing func(x *life) bool

// begun opens a disk that has told these commits. If an error comes, there is no log.
func begun(d *disk.Disk, told []api.Commit) *life {
	x := &life{d: d, all: slices.Clone(told), had: len(told)}
	// The disk tells it without power, too.
	m, _, _ := ckpt.Load(copied(d))
	x.manifests = append(x.manifests, m)
	_, x.l, _ = reload.Open(d)
	return x
}

func (x *life) goesOn(list ...doing) bool {
	for _, do := range list {
		if x.l == nil || !do(x) {
			return false
		}
	}
	return true
}

func (x *life) manifest() api.Manifest { return x.manifests[x.made] }

// flushed is how many commits must be there behind a crash.
func (x *life) flushed() int { return x.had + x.l.Flushed() }

// rowsOf are the rows that commits leave.
func rowsOf(list []api.Commit) []api.Row {
	out, _, right := plainReplay(nil, 0, list)
	if !right {
		panic("commits that are not right")
	}
	return out
}

// upTo is how many of commits have a Time up to this one.
func upTo(list []api.Commit, at int64) int {
	n := 0
	for n < len(list) && list[n].Time <= at {
		n++
	}
	return n
}

// putting puts another commit, whose Time is a little above that of the one ahead.
func putting(x *life) bool {
	at, n := int64(2), len(x.all)
	if n > 0 {
		at = x.all[n-1].Time + 1 + int64(n%3)
	}
	c := commit(at, set(string(rune('a'+n%5)), fmt.Sprint(n)), gone(string(rune('f'+n%4))), set(string(rune('k'+n%7)), ""))
	if n%4 == 1 {
		c.Writes[0] = gone(c.Writes[0].Key)
		c.Writes[1] = set(c.Writes[1].Key, strings.Repeat("v", 40))
	}
	if _, e := x.l.Put(c); e != api.OK {
		return false
	}
	x.all = append(x.all, c)
	return true
}

func flushing(x *life) bool {
	_, e := x.l.Flush()
	return e == api.OK
}

func rotating(x *life) bool {
	_, e := x.l.Rotate()
	return e == api.OK
}

// stepping does the steps of who puts another manifest in place, and something between them.
func stepping(x *life, step func() (bool, api.Errno), m api.Manifest, between ...doing) bool {
	x.manifests = append(x.manifests, m)
	for i := 0; ; i++ {
		done, e := step()
		if e != api.OK {
			return false
		}
		if done {
			x.made = len(x.manifests) - 1
			return true
		}
		if len(between) > 0 && !between[i%len(between)](x) {
			return false
		}
	}
}

// checkpointing rotates the log, and writes all that stands ahead of the new segment, and so many of the commits that were put and are not flushed, as another pair. What is not needed any more stays.
func checkpointing(more int, between ...doing) doing {
	return func(x *life) bool {
		log, e := x.l.Rotate()
		if e != api.OK {
			return false
		}
		m := x.manifest()
		n := min(x.flushed()+more, len(x.all))
		if n == 0 || x.all[n-1].Time <= m.Time || len(m.Pairs) == api.MaxPairs {
			return true
		}
		ahead, behind := rowsOf(x.all[:upTo(x.all, m.Time)]), rowsOf(x.all[:n])
		var old []api.Gone
		for _, r := range ahead {
			if !slices.Contains(behind, r) {
				old = append(old, api.Gone{Key: r.Key, Time: r.Time})
			}
		}
		news := slices.DeleteFunc(behind, func(r api.Row) bool { return r.Time <= m.Time })
		w, e := ckpt.Write(x.d, m, x.all[n-1].Time, log, news, old)
		if e != api.OK {
			panic(e)
		}
		return stepping(x, w.Step, w.Manifest(), between...)
	}
}

func merging(at int, between ...doing) doing {
	return func(x *life) bool {
		m := x.manifest()
		if len(m.Pairs) < 2 {
			return true
		}
		g, e := merge.Begin(x.d, m, at%(len(m.Pairs)-1))
		if e != api.OK {
			return false
		}
		return stepping(x, g.Step, g.Manifest(), between...)
	}
}

func cleaning(x *life) bool {
	_, e := ckpt.Clean(x.d, x.manifest())
	return e == api.OK
}

func dropping(x *life) bool {
	_, e := x.l.Drop(x.manifest().Log)
	return e == api.OK
}

// lasts: what a disk tells are the first so many of a life's commits, with all that were flushed, and one of its manifests, not ahead of the one that is done. How many, is answered; and Open again tells the same.
func lasts(t *testing.T, what string, d *disk.Disk, x *life) int {
	t.Helper()
	s, _, e := reload.Open(d)
	again, _, e2 := reload.Open(d)
	if e != api.OK || e2 != api.OK || !sameStates(s, again) {
		t.Fatalf("%s: Open: %s, %v; again: %s, %v", what, told(s), e, told(again), e2)
	}
	which := slices.IndexFunc(x.manifests, func(m api.Manifest) bool { return sameManifests(m, s.Manifest) })
	if which < x.made {
		t.Fatalf("%s: the manifest %s; %d of %s are done", what, told(s.Manifest), x.made, told(x.manifests))
	}
	n, base := upTo(x.all, s.Time), upTo(x.all, s.Manifest.Time)
	if n < x.had || x.l != nil && n < x.flushed() {
		t.Fatalf("%s: %d commits, up to %d; %d were told, %d flushed", what, n, s.Time, x.had, x.flushed())
	}
	want := reload.State{Manifest: s.Manifest, Base: rowsOf(x.all[:base]), Rows: rowsOf(x.all[:n])}
	for _, c := range x.all[base:n] {
		want.Times = append(want.Times, c.Time)
	}
	if n > 0 {
		want.Time = x.all[n-1].Time
	}
	if !sameStates(s, want) {
		t.Fatalf("%s: Open: %s; want %s", what, told(s), told(want))
	}
	return n
}

// several is a life of all that there is to do.
func several() []doing {
	f, p := doing(flushing), doing(putting)
	return []doing{
		p, f, f, f, f, p, p, f, checkpointing(0, p, f),
		f, f, cleaning, dropping, dropping, p, f, f, f, f,
		p, p, f, f, checkpointing(1, f, f, p), f, dropping, f, cleaning,
		p, f, f, f, f, rotating, p, p, f, f, f, f,
		checkpointing(9), merging(0, f, p), f, cleaning, cleaning, f, f, cleaning, cleaning, cleaning,
		p, f, merging(1), dropping, f, f, f, dropping, cleaning, cleaning, cleaning, p, f, f,
	}
}

// What was acknowledged is there: at every operation, whatever stays and is torn.
func TestCrashAnywhere(t *testing.T) {
	t.Parallel()
	whole := begun(disk.New(), nil)
	if !whole.goesOn(several()...) || whole.made != 5 || whole.d.Ops() < 100 {
		t.Fatal(whole.made, whole.d.Ops())
	}
	partly, reached := 0, map[int]int{}
	for at := range whole.d.Ops() + 1 {
		d := disk.New()
		d.CutAt(at)
		x := begun(d, nil)
		if x.goesOn(several()...) != (at == whole.d.Ops()) {
			t.Fatal(at)
		}
		reached[x.made]++
		for _, dirs := range []int{0, 1, 2, 3, 5, lots} {
			for _, keep := range []int{0, 1, 31, 32, 33, 64, 95, 96, 97, 128, 160, 200, lots} {
				for _, tear := range []int{0, 1, 33, lots} {
					f := api.Fate{Keep: keep, Dirs: dirs, Tear: tear}
					n := lasts(t, fmt.Sprint("cut at ", at, ", ", f), d.Crash(f), x)
					if x.l != nil && n > x.flushed() && n < len(x.all) {
						partly++
					}
				}
			}
		}
	}
	if partly == 0 || len(reached) != 6 {
		t.Error("no crash has left a part of what was not flushed, or not all manifests were reached:", partly, reached)
	}
}

// drawn is a life at random; what it puts between the steps of a checkpoint, too.
func drawn(draw *rand.Rand) []doing {
	f, p := doing(flushing), doing(putting)
	list := []doing{}
	between := [][]doing{nil, {f}, {p, f}, {f, f, p}, {p, nothing}}
	for range 5 + draw.Intn(25) {
		switch draw.Intn(16) {
		case 0, 1, 2:
			list = append(list, p)
		case 3:
			list = append(list, p, f, f, f, f)
		case 4, 5, 6, 7, 8:
			list = append(list, f)
		case 9:
			if draw.Intn(3) == 0 {
				list = append(list, rotating)
			}
		case 10, 11:
			list = append(list, checkpointing(draw.Intn(3), between[draw.Intn(5)]...), dropping)
		case 12:
			list = append(list, merging(draw.Intn(20), between[draw.Intn(5)]...))
		case 13, 14:
			list = append(list, cleaning)
		case 15:
			list = append(list, dropping)
		}
	}
	return list
}

// nothing lets a step go by.
func nothing(*life) bool { return true }

// settled makes room: a checkpoint of all, few pairs, and nothing that is not needed.
func settled(x *life) bool {
	tidy := slices.Repeat([]doing{cleaning, dropping}, api.MaxFiles)
	for len(x.manifest().Pairs) > 3 {
		if !x.goesOn(tidy...) || !x.goesOn(merging(0)) {
			return false
		}
	}
	return x.goesOn(tidy...) && x.goesOn(checkpointing(0)) && x.goesOn(tidy...)
}

// Crash behind crash: what a disk tells then is what the next life goes on with.
func TestCrashAgain(t *testing.T) {
	t.Parallel()
	draw := rand.New(rand.NewSource(18))
	fate := func() api.Fate {
		return api.Fate{Keep: draw.Intn(300) * draw.Intn(2), Dirs: draw.Intn(8), Tear: draw.Intn(80) * draw.Intn(2)}
	}
	commits, made, lost := 0, 0, 0
	for round := range 200 {
		d := disk.New()
		var told []api.Commit
		for n := range 12 {
			if draw.Intn(3) > 0 {
				d.CutAt(draw.Intn(100))
			}
			x := begun(d, told)
			x.goesOn(drawn(draw)...)
			d = d.Crash(fate())
			count := lasts(t, fmt.Sprint("round ", round, ", life ", n), copied(d), x)
			lost += len(x.all) - count
			told = x.all[:count]
			made += x.made
			if len(d.Names()) > 20 {
				x := begun(d, told)
				if !settled(x) {
					t.Fatalf("round %d, life %d: no room: %v", round, n, d.Names())
				}
				lasts(t, fmt.Sprint("round ", round, ", life ", n, ", settled"), copied(d), x)
				d = d.Crash(fate())
			}
		}
		commits += len(told)
	}
	if commits < 5000 || made < 1000 || lost < 500 {
		t.Error(commits, made, lost)
	}
}

// pokes turns each byte of each file of a disk, by each of some bytes: Open tells that, or the same rows. How often it tells it, is answered.
func pokes(t *testing.T, what string, d *disk.Disk, by func(was byte) []byte) int {
	t.Helper()
	want, _, e := reload.Open(copied(d))
	if e != api.OK {
		t.Fatal(what, e)
	}
	corrupt := 0
	for _, name := range d.Names() {
		b, _ := d.Read(name)
		for at, was := range b {
			for _, x := range by(was) {
				poked := copied(d)
				poked.Poke(name, at, x)
				s, l, e := reload.Open(poked)
				if e == api.ErrReloadCorrupt && x != was && l == nil && sameStates(s, reload.State{}) {
					corrupt++
					continue
				}
				if e != api.OK || !slices.Equal(s.Rows, want.Rows) {
					t.Fatalf("%s: %s at %d by %x: %s, %v", what, name, at, x, told(s), e)
				}
			}
		}
	}
	return corrupt
}

func someBytes(was byte) []byte {
	out := []byte{was, 0, 0xff, 0xa1, 0xb2, ^was, was + 1}
	for bit := range 8 {
		out = append(out, was^1<<bit)
	}
	return out
}

func allBytes(byte) []byte {
	var out []byte
	for x := range 256 {
		out = append(out, byte(x))
	}
	return out
}

// What no crash leaves is told.
func TestPoke(t *testing.T) {
	t.Parallel()
	f, p := doing(flushing), doing(putting)
	rest := []doing{f, f, f, f, f, f, f, f}
	for what, list := range map[string][]doing{
		"nothing":            {},
		"a log":              {p, f, f, f, f, p, p, f, f, f, f},
		"a rotated log":      {p, f, f, f, f, rotating, p, f, f, f, f, rotating},
		"a checkpoint":       {p, p, f, f, f, f, checkpointing(0), p, f, f, f, f},
		"cleaned, dropped":   {p, p, f, f, f, f, checkpointing(0), cleaning, dropping, dropping},
		"a merger":           {p, f, f, f, f, checkpointing(0), p, f, f, f, f, checkpointing(0), merging(0), cleaning, p, f, f, f, f},
		"of more than stays": {p, f, f, f, f, p, checkpointing(1), dropping, dropping, p, p, rotating, f, f, f, f},
	} {
		x := begun(disk.New(), nil)
		if !x.goesOn(list...) || !x.goesOn(rest...) || x.flushed() != len(x.all) {
			t.Fatal(what)
		}
		by := someBytes
		if len(list) < 11 {
			by = allBytes
		}
		if corrupt := pokes(t, what, x.d, by); (corrupt == 0) != (what == "nothing") {
			t.Errorf("%s: %d bytes were told", what, corrupt)
		}
	}
	x := begun(disk.New(), nil)
	if !x.goesOn(several()...) || !x.goesOn(rest...) {
		t.Fatal("several")
	}
	if pokes(t, "several", x.d, func(was byte) []byte { return []byte{was ^ 1, ^was, 0, 0xa1} }) == 0 {
		t.Error("no byte was told")
	}
}

// The same behind crashes, when another life has flushed all that it put.
func TestPokeBehindCrashes(t *testing.T) {
	t.Parallel()
	draw := rand.New(rand.NewSource(19))
	for round := range 25 {
		d := disk.New()
		var all []api.Commit
		for range 1 + draw.Intn(3) {
			d.CutAt(draw.Intn(60))
			x := begun(d, all)
			x.goesOn(drawn(draw)...)
			d = d.Crash(api.Fate{Keep: draw.Intn(300), Dirs: draw.Intn(8), Tear: draw.Intn(40) * draw.Intn(2)})
			all = x.all[:lasts(t, fmt.Sprint("round ", round), copied(d), x)]
		}
		x := begun(d, all)
		if !x.goesOn(putting, flushing, flushing, flushing, flushing) {
			t.Fatal(round)
		}
		pokes(t, fmt.Sprint("round ", round), d, func(was byte) []byte { return []byte{was ^ 4, ^was} })
	}
}
