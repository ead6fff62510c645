package ckpt_test

import (
	"fmt"
	"maps"
	"math/rand"
	"slices"
	"strings"
	"testing"

	"varve/api"
	"varve/ckpt"
	"varve/disk"
)

// state is what Load tells.
type state struct {
	m    api.Manifest
	rows []api.Row
}

func (s state) is(m api.Manifest, list []api.Row) bool {
	return sameManifests(s.m, m) && slices.Equal(s.rows, list)
}

// leaves: Load of a disk tells the one state or the other; which. If it was done, it must be the other one.
func leaves(t *testing.T, what string, d *disk.Disk, ahead, behind state, done bool) bool {
	t.Helper()
	m, list, e := ckpt.Load(d)
	if e == api.OK && behind.is(m, list) {
		return true
	}
	if e == api.OK && !done && ahead.is(m, list) {
		return false
	}
	t.Fatalf("%s: Load: %s, %s, %v; ahead %s, behind %s, done %v", what, told(m), told(list), e, told(ahead), told(behind), done)
	return false
}

// run does steps of a writer until it is done, or an error comes.
func run(w *ckpt.Writer) bool {
	for {
		done, e := w.Step()
		if done || e != api.OK {
			return done
		}
	}
}

// crashes tries every fate, at every operation of the disk, of a write on disks that are made anew for each.
func crashes(t *testing.T, what string, fresh func() *disk.Disk, ahead, behind state, write func(d *disk.Disk) *ckpt.Writer) {
	t.Helper()
	d := fresh()
	from := d.Ops()
	run(write(d))
	ops := d.Ops() - from
	var told [2]int
	for at := range ops + 1 {
		d := fresh()
		d.CutAt(d.Ops() + at)
		done := run(write(d))
		if done != (at == ops) {
			t.Fatalf("%s: cut at %d: done %v", what, at, done)
		}
		for dirs := range 8 {
			for keep := range 330 {
				if keep > 3 && keep%16 > 1 && keep%16 < 15 {
					continue
				}
				for _, tear := range []int{0, 1, 31, 32, 33, lots} {
					f := api.Fate{Keep: keep, Dirs: dirs, Tear: tear}
					if leaves(t, fmt.Sprint(what, ": cut at ", at, ", ", f), d.Crash(f), ahead, behind, done) {
						told[1]++
					} else {
						told[0]++
					}
				}
			}
		}
	}
	if told[0] == 0 || told[1] == 0 {
		t.Errorf("%s: crashes have left only one of two states: %v", what, told)
	}
}

// Whole or not at all: at every operation, whatever stays and is torn.
func TestCrashAnywhere(t *testing.T) {
	crashes(t, "the first", disk.New, state{m: manifest(1)}, state{manifest(2, 9), someRows}, func(d *disk.Disk) *ckpt.Writer {
		w, _ := ckpt.Write(d, manifest(1), 9, 2, someRows, nil)
		return w
	})
	for what, has := range subsets() {
		fresh := func() *disk.Disk { return inTheWay(files(some()), has) }
		crashes(t, what, fresh, state{manifest(2, 9), someRows}, state{manifest(3, 9, 12), someRowsBehind()}, func(d *disk.Disk) *ckpt.Writer {
			w, _ := someWrite(t, d)
			return w
		})
	}
}

// The same with the elder manifest made by a writer on the same disk, and with files that a writer has left which was never done.
func TestCrashBehindOthers(t *testing.T) {
	for left := range 9 {
		fresh := func() *disk.Disk {
			d := disk.New()
			all(t, writes(t, "", d, manifest(1), 9, 2, someRows, nil))
			w, _ := ckpt.Write(d, manifest(2, 9), 30, 9, manyRows(3, 20, 9), gones(gone("a", 5)))
			for range left {
				step(t, "left behind", w, false)
			}
			if left == 8 { // its manifest stands already
				d = d.Crash(api.Fate{Keep: lots})
			}
			return d
		}
		crashes(t, fmt.Sprint("behind ", left, " steps"), fresh, state{manifest(2, 9), someRows}, state{manifest(3, 9, 12), someRowsBehind()}, func(d *disk.Disk) *ckpt.Writer {
			w, _ := someWrite(t, d)
			return w
		})
	}
}

// table is a life of many checkpoints: what Load must tell, and the next one to be written.
type table struct {
	draw *rand.Rand
	now  state
}

// next is a right checkpoint behind what there is: the state that it makes, and what Write is handed.
func (x *table) next() (state, []api.Row, []api.Gone) {
	to := x.now.m.Time + 1 + int64(x.draw.Intn(5))
	has := map[string]api.Row{}
	var news []api.Row
	var old []api.Gone
	for _, r := range x.now.rows {
		if x.draw.Intn(3) == 0 {
			old = append(old, gone(r.Key, r.Time))
		} else {
			has[r.Key] = r
		}
	}
	for key := range 12 {
		r := row(string(rune('a'+key)), strings.Repeat("v", x.draw.Intn(40)), to-int64(x.draw.Intn(int(to-x.now.m.Time))))
		if _, there := has[r.Key]; !there && x.draw.Intn(3) == 0 {
			news = append(news, r)
		}
	}
	for _, r := range news {
		has[r.Key] = r
	}
	next := state{m: api.Manifest{Time: to, Log: x.now.m.Log + x.draw.Intn(2), Pairs: slices.Clone(x.now.m.Pairs)}}
	number := 1
	for _, p := range next.m.Pairs {
		number = max(number, p.Number+1)
	}
	next.m.Pairs = append(next.m.Pairs, api.Pair{Number: number, From: x.now.m.Time, To: to})
	for _, key := range slices.Sorted(maps.Keys(has)) {
		next.rows = append(next.rows, has[key])
	}
	return next, news, old
}

// Behind all steps of a writer Load tells its manifest, and the rows that were there, less what is gone, with the new ones.
func TestManyCheckpoints(t *testing.T) {
	for seed := range int64(30) {
		x := &table{draw: rand.New(rand.NewSource(seed)), now: state{m: manifest(1)}}
		d := disk.New()
		for n := range api.MaxPairs {
			next, news, old := x.next()
			w := writes(t, fmt.Sprint(seed, " ", n), d, x.now.m, next.m.Time, next.m.Log, news, old)
			if got := w.Manifest(); !sameManifests(got, next.m) {
				t.Fatalf("%d, %d: %s, not %s", seed, n, told(got), told(next.m))
			}
			all(t, w)
			loads(t, fmt.Sprint(seed, " ", n), d, next.m, next.rows...)
			x.now = next
		}
		refuses(t, "a seventeenth pair", d, x.now.m, x.now.m.Time+1, x.now.m.Log, nil, nil, api.ErrCkptForm)
	}
}

// Crash behind crash, with Clean in between: what Load tells then is what the next writer goes on with.
func TestCrashAgain(t *testing.T) {
	draw := rand.New(rand.NewSource(12))
	fate := func() api.Fate {
		return api.Fate{Keep: draw.Intn(200) * draw.Intn(2), Dirs: draw.Intn(8), Tear: draw.Intn(80) * draw.Intn(2)}
	}
	var told [2]int
	for round := range 150 {
		x := &table{draw: draw, now: state{m: manifest(1)}}
		d := disk.New()
		for n := 0; n < 25 && len(x.now.m.Pairs) < api.MaxPairs; n++ {
			what := fmt.Sprint("round ", round, ", life ", n)
			next, news, old := x.next()
			w := writes(t, what, d, x.now.m, next.m.Time, next.m.Log, news, old)
			d.CutAt(d.Ops() + draw.Intn(16))
			done := run(w)
			if done {
				for range draw.Intn(3) {
					ckpt.Clean(d, next.m)
				}
			}
			d = d.Crash(fate())
			if leaves(t, what, d, x.now, next, done) {
				told[1]++
				x.now = next
			} else {
				told[0]++
			}
			for range draw.Intn(3) {
				ckpt.Clean(d, x.now.m)
			}
			loads(t, what+", cleaned", d, x.now.m, x.now.rows...)
		}
	}
	if told[0] < 200 || told[1] < 200 {
		t.Errorf("crashes have left one of two states too seldom: %v", told)
	}
}

// Clean makes no difference to Load, neither now nor behind a crash, and takes away all that is not the manifest's.
func TestCleanAndLoad(t *testing.T) {
	for what, has := range subsets() {
		d := inTheWay(files(some()), has)
		d.Append("data-77", []byte("x"))
		d.Append("delta-78", dataFile(api.Pair{Number: 78, From: 9, To: 12}))
		for done := false; !done; {
			var e api.Errno
			if done, e = ckpt.Clean(d, manifest(2, 9)); e != api.OK {
				t.Fatal(what, e)
			}
			loads(t, what, d, manifest(2, 9), someRows...)
			for dirs := range 10 {
				loads(t, what+", behind a crash", d.Crash(api.Fate{Keep: lots, Dirs: dirs}), manifest(2, 9), someRows...)
			}
		}
		if names := d.Names(); !slices.Equal(names, []string{"data-1", "delta-1", "log-2", "manifest"}) {
			t.Errorf("%s: %v", what, names)
		}
	}
}

// If one byte of a manifest's files is another one, Load tells so: each byte of each file, by each other byte.
func TestPoke(t *testing.T) {
	d := disk.New()
	all(t, writes(t, "", d, manifest(1), 9, 2, someRows, nil))
	w, _ := someWrite(t, d)
	all(t, w)
	for _, name := range d.Names() {
		b, _ := d.Read(name)
		for at, was := range b {
			for x := range 256 {
				d.Poke(name, at, byte(x))
				m, list, e := ckpt.Load(d)
				if byte(x) == was {
					if e != api.OK {
						t.Fatalf("%s at %d: %v", name, at, e)
					}
				} else if e != api.ErrCkptCorrupt || len(list) != 0 || !sameManifests(m, api.Manifest{}) {
					t.Fatalf("%s at %d by %x: %s, %s, %v", name, at, x, told(m), told(list), e)
				}
			}
			d.Poke(name, at, was)
		}
	}
	loads(t, "as it was", d, manifest(3, 9, 12), someRowsBehind()...)
	d.Append("data-3", []byte("not the manifest's"))
	d.Poke("data-3", 3, 0)
	loads(t, "another file", d, manifest(3, 9, 12), someRowsBehind()...)
}

// As many rows as there may be, and then all of them gone.
func TestMostRows(t *testing.T) {
	d := disk.New()
	list := manyRows(api.MaxRows, 5, 0)
	all(t, writes(t, "rows", d, manifest(1), 9, 1, list, nil))
	loads(t, "rows", d, manifest(1, 9), list...)
	var old []api.Gone
	for _, r := range list {
		old = append(old, gone(r.Key, r.Time))
	}
	all(t, writes(t, "gone", d, manifest(1, 9), 12, 1, nil, old))
	loads(t, "gone", d, manifest(1, 9, 12))
}
