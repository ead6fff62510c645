package merge_test

import (
	"fmt"
	"maps"
	"math/rand"
	"slices"
	"strings"
	"testing"

	"varve/api"
	"varve/ckpt"
	"varve/disk"
	"varve/merge"
)

// clean deletes all files that a manifest does not name.
func clean(t *testing.T, d *disk.Disk, m api.Manifest) {
	t.Helper()
	for range api.MaxFiles {
		done, e := ckpt.Clean(d, m)
		if e != api.OK {
			t.Fatal(e)
		}
		if done {
			return
		}
	}
	t.Fatal("never clean")
}

// leaves: Load of a disk tells these rows, and the one manifest or the other; which. If it was done, it must be the other one.
func leaves(t *testing.T, what string, d *disk.Disk, list []api.Row, ahead, behind api.Manifest, done bool) bool {
	t.Helper()
	m, got, e := ckpt.Load(d)
	if e == api.OK && slices.Equal(got, list) {
		if sameManifests(m, behind) {
			return true
		}
		if !done && sameManifests(m, ahead) {
			return false
		}
	}
	t.Fatalf("%s: Load: %s, %s, %v; ahead %s, behind %s, rows %s, done %v", what, told(m), told(got), e, told(ahead), told(behind), told(list), done)
	return false
}

// run does steps until all is done, or an error comes.
func run(w stepper) bool {
	for range 50 {
		done, e := w.Step()
		if done || e != api.OK {
			return done
		}
	}
	return false
}

// crashes tries every fate, at every operation of a merger, on disks that are made anew for each.
func crashes(t *testing.T, what string, fresh func() *disk.Disk, at int) {
	t.Helper()
	d := fresh()
	m, list, _ := ckpt.Load(d)
	from := d.Ops()
	w, e := merge.Begin(d, m, at)
	if e != api.OK {
		t.Fatal(what, e)
	}
	run(w)
	ops, behind := d.Ops()-from, w.Manifest()
	var count [2]int
	for cut := range ops + 1 {
		d := fresh()
		w, _ := merge.Begin(d, m, at)
		d.CutAt(d.Ops() + cut)
		done := run(w)
		if done != (cut == ops) {
			t.Fatalf("%s: cut at %d: done %v", what, cut, done)
		}
		for dirs := range 9 {
			for keep := range 460 {
				if keep > 3 && keep%32 > 1 && keep%32 < 31 {
					continue
				}
				for _, tear := range []int{0, 1, 32, 33, lots} {
					f := api.Fate{Keep: keep, Dirs: dirs, Tear: tear}
					if leaves(t, fmt.Sprint(what, ": cut at ", cut, ", ", f), d.Crash(f), list, m, behind, done) {
						count[1]++
					} else {
						count[0]++
					}
				}
			}
		}
	}
	if count[0] == 0 || count[1] == 0 {
		t.Errorf("%s: crashes have left only one of two manifests: %v", what, count)
	}
}

// Nothing is lost: at every operation, whatever stays and is torn.
func TestCrashAnywhere(t *testing.T) {
	t.Parallel()
	for at := range 3 {
		for _, has := range [][]string{nil, {"data-5"}, {"delta-5", "manifest.new"}, ways} {
			crashes(t, fmt.Sprint("at ", at, ", in the way ", has), func() *disk.Disk { return inTheWay(files(someFiles()), has) }, at)
		}
	}
}

// The same on a disk on which the pairs were written, and behind a merger that was never done.
func TestCrashBehindOthers(t *testing.T) {
	t.Parallel()
	written := func() *disk.Disk {
		d := disk.New()
		m, contents := some()
		now := api.Manifest{Log: 1}
		for i, c := range contents {
			w, _ := ckpt.Write(d, now, m.Pairs[i].To, m.Log, c.rows, c.gone)
			all(t, w)
			now = w.Manifest()
		}
		return d
	}
	m, _ := some()
	for left := range 9 {
		fresh := func() *disk.Disk {
			d := written()
			w, _ := merge.Begin(d, m, 0)
			for range left {
				step(t, "left behind", w, false)
			}
			if left == 8 { // its manifest stands already
				d = d.Crash(api.Fate{Keep: lots})
			}
			return d
		}
		crashes(t, fmt.Sprint("behind ", left, " steps"), fresh, left%3)
	}
	crashes(t, "behind another one, cleaned", func() *disk.Disk {
		d := written()
		w, _ := merge.Begin(d, m, 1)
		all(t, w)
		clean(t, d, w.Manifest())
		return d
	}, 1)
}

// table is a life of checkpoints and mergers: the manifest and the rows that Load must tell.
type table struct {
	draw *rand.Rand
	d    *disk.Disk
	m    api.Manifest
	rows []api.Row
}

// write begins a checkpoint behind what there is: its writer, and the rows that are there behind it.
func (x *table) write(t *testing.T) (*ckpt.Writer, []api.Row) {
	t.Helper()
	to := x.m.Time + 1 + int64(x.draw.Intn(5))
	has := map[string]api.Row{}
	var news []api.Row
	var old []api.Gone
	for _, r := range x.rows {
		if x.draw.Intn(3) == 0 {
			old = append(old, gone(r.Key, r.Time))
		} else {
			has[r.Key] = r
		}
	}
	for key := range 12 {
		r := row(string(rune('a'+key)), strings.Repeat("v", x.draw.Intn(40)), to-int64(x.draw.Intn(int(to-x.m.Time))))
		if _, there := has[r.Key]; !there && x.draw.Intn(3) == 0 {
			news = append(news, r)
		}
	}
	for _, r := range news {
		has[r.Key] = r
	}
	w, e := ckpt.Write(x.d, x.m, to, x.m.Log+x.draw.Intn(2), news, old)
	if e != api.OK {
		t.Fatal(e)
	}
	var list []api.Row
	for _, key := range slices.Sorted(maps.Keys(has)) {
		list = append(list, has[key])
	}
	return w, list
}

// grow writes checkpoints until there are so many pairs.
func (x *table) grow(t *testing.T, n int) {
	t.Helper()
	for len(x.m.Pairs) < n {
		w, list := x.write(t)
		all(t, w)
		x.m, x.rows = w.Manifest(), list
	}
}

func greatest(m api.Manifest) int {
	n := 0
	for _, p := range m.Pairs {
		n = max(n, p.Number)
	}
	return n
}

// One merger behind the other until one pair is left, in whatever order, with Clean between and without: Load tells the same rows all the time, and then the data file has just these, and the delta file nothing.
func TestUntilOneIsLeft(t *testing.T) {
	t.Parallel()
	for seed := range int64(120) {
		x := &table{draw: rand.New(rand.NewSource(seed)), d: disk.New(), m: manifest(1)}
		x.grow(t, 2+x.draw.Intn(15))
		for n := 0; len(x.m.Pairs) > 1; n++ {
			at := x.draw.Intn(len(x.m.Pairs) - 1)
			switch seed % 4 { // from the first on, from the last on, or anywhere
			case 0:
				at = 0
			case 1:
				at = len(x.m.Pairs) - 2
			}
			what := fmt.Sprint("seed ", seed, ", merger ", n, " at ", at)
			want := merged(x.m, at, greatest(x.m)+1)
			all(t, begins(t, what, x.d, x.m, at, want))
			loads(t, what, x.d, want, x.rows...)
			loads(t, what+", behind a crash", x.d.Crash(api.Fate{}), want, x.rows...)
			if seed%3 == 0 || seed%3 == 1 && n%2 == 0 {
				clean(t, x.d, want)
				loads(t, what+", cleaned", x.d, want, x.rows...)
				if names := x.d.Names(); len(names) != 2*len(want.Pairs)+1 {
					t.Fatalf("%s: %v", what, names)
				}
			}
			x.m = want
		}
		p := x.m.Pairs[0]
		what := fmt.Sprint("seed ", seed, ", one is left")
		lies(t, what, x.d, ckpt.DataName(p.Number), dataFile(p, x.rows...))
		lies(t, what, x.d, ckpt.DeltaName(p.Number), deltaFile(p))
		if p.From != 0 || p.To != x.m.Time {
			t.Errorf("%s: %v", what, x.m)
		}
		refuses(t, what, x.d, x.m, 0, api.ErrMergeNone)
	}
}

// Checkpoints and mergers, crash behind crash, with Clean in between: what Load tells then is what the next one goes on with.
func TestCrashAgain(t *testing.T) {
	t.Parallel()
	draw := rand.New(rand.NewSource(14))
	fate := func() api.Fate {
		return api.Fate{Keep: draw.Intn(300) * draw.Intn(2), Dirs: draw.Intn(8), Tear: draw.Intn(80) * draw.Intn(2)}
	}
	var count [2]int
	for round := range 200 {
		x := &table{draw: draw, d: disk.New(), m: manifest(1)}
		x.grow(t, 2+draw.Intn(6))
		for n := range 20 {
			what := fmt.Sprint("round ", round, ", life ", n)
			if len(x.m.Pairs) < 2 || len(x.m.Pairs) < api.MaxPairs && draw.Intn(3) == 0 {
				x.grow(t, len(x.m.Pairs)+1)
			}
			at := draw.Intn(len(x.m.Pairs) - 1)
			want := merged(x.m, at, greatest(x.m)+1)
			w := begins(t, what, x.d, x.m, at, want)
			x.d.CutAt(x.d.Ops() + draw.Intn(16))
			done := run(w)
			if done {
				for range draw.Intn(4) {
					ckpt.Clean(x.d, want)
				}
			}
			x.d = x.d.Crash(fate())
			if leaves(t, what, x.d, x.rows, x.m, want, done) {
				count[1]++
				x.m = want
			} else {
				count[0]++
			}
			for range draw.Intn(3) {
				ckpt.Clean(x.d, x.m)
			}
			loads(t, what+", cleaned", x.d, x.m, x.rows...)
		}
	}
	if count[0] < 200 || count[1] < 200 {
		t.Errorf("crashes have left one of two manifests too seldom: %v", count)
	}
}

// A merger makes room: behind sixteen pairs comes another one only when two are one.
func TestRoomForAnother(t *testing.T) {
	x := &table{draw: rand.New(rand.NewSource(1)), d: disk.New(), m: manifest(1)}
	x.grow(t, api.MaxPairs)
	if _, e := ckpt.Write(x.d, x.m, x.m.Time+1, x.m.Log, nil, nil); e != api.ErrCkptForm {
		t.Fatal(e)
	}
	for n := range 40 {
		at := n * 7 % 15
		want := merged(x.m, at, greatest(x.m)+1)
		all(t, begins(t, "sixteen", x.d, x.m, at, want))
		clean(t, x.d, want)
		x.m = want
		x.grow(t, api.MaxPairs)
		loads(t, "sixteen again", x.d, x.m, x.rows...)
	}
}

// As many rows as there may be, in the first pair, all in the place of others in the second one.
func TestMostRows(t *testing.T) {
	m := manifest(1, 9, 12)
	list := manyRows(0, api.MaxRows, 12, "n")
	d := files(filesOf(m, content{manyRows(0, api.MaxRows, 5, "o"), nil}, content{list, manyGone(0, api.MaxRows, 5)}))
	loads(t, "two", d, m, list...)
	all(t, begins(t, "as one", d, m, 0, merged(m, 0, 3)))
	loads(t, "one", d, merged(m, 0, 3), list...)
}
