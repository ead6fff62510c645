package merge_test

import (
	"fmt"
	"reflect"
	"slices"
	"strings"
	"testing"

	"varve/api"
	"varve/ckpt"
	"varve/disk"
	"varve/merge"
)

// op is an operation that a merger should do.
type op func(d *disk.Disk) api.Errno

func deletes(name string) op {
	return func(d *disk.Disk) api.Errno { return d.Delete(name) }
}

func appends(name string, b []byte) op {
	return func(d *disk.Disk) api.Errno { return d.Append(name, b) }
}

func syncs(name string) op {
	return func(d *disk.Disk) api.Errno { return d.Sync(name) }
}

func syncsDir(d *disk.Disk) api.Errno { return d.SyncDir() }

func renames(d *disk.Disk) api.Errno { return d.Rename("manifest.new", "manifest") }

// someMerger is one of the pairs at a place of some, and behind it: and the operations that it does on a disk with none of its files.
func someMerger(t *testing.T, d *disk.Disk, at int) (*merge.Merger, []op) {
	t.Helper()
	m, _ := some()
	next, c := merged(m, at, 5), someOnes()[at]
	p := next.Pairs[at]
	return begins(t, "some", d, m, at, next), []op{
		appends("data-5", dataFile(p, c.rows...)), syncs("data-5"),
		appends("delta-5", deltaFile(p, c.gone...)), syncs("delta-5"),
		syncsDir,
		appends("manifest.new", manifestFile(next)), syncs("manifest.new"),
		renames,
		syncsDir,
	}
}

// ways are the files that a merger may find in its way.
var ways = []string{"data-5", "delta-5", "manifest.new"}

// subsets of the files that a merger may find in its way.
func subsets() [][]string {
	var out [][]string
	for bits := range 8 {
		var has []string
		for i, name := range ways {
			if bits>>i&1 == 1 {
				has = append(has, name)
			}
		}
		out = append(out, has)
	}
	return out
}

// inTheWay lays files on a disk, partly synced.
func inTheWay(d *disk.Disk, has []string) *disk.Disk {
	for _, name := range has {
		d.Append(name, []byte("in the "))
		d.Sync(name)
		d.Append(name, []byte("way"))
	}
	return d
}

func TestSteps(t *testing.T) { // P14.3
	m, _ := some()
	for at := range 3 {
		for _, has := range subsets() {
			what := fmt.Sprint("at ", at, ", in the way ", has)
			d, want := inTheWay(files(someFiles()), has), inTheWay(files(someFiles()), has)
			w, ops := someMerger(t, d, at)
			var todo []op
			for _, name := range has {
				todo = append(todo, deletes(name))
			}
			todo = append(todo, ops...)
			for i, o := range todo {
				which := fmt.Sprint(what, " step ", i+1)
				if e := o(want); e != api.OK {
					t.Fatal(which, e)
				}
				step(t, which, w, i == len(todo)-1)
				sameDisks(t, which, d, want)
			}
			for range 3 {
				step(t, what+" behind the last", w, true)
				sameDisks(t, what+" behind the last", d, want)
			}
			loads(t, what, d, merged(m, at, 5), someRows...)
			loads(t, what, d.Crash(api.Fate{}), merged(m, at, 5), someRows...)
			off(d)
			step(t, what+" done, without power", w, true)
		}
	}
}

// Whether a file is there is asked when its turn comes, neither by Begin nor again.
func TestStepsTurns(t *testing.T) { // P14.3
	m, _ := some()
	for at := range 3 {
		// All three come behind Begin: all three are deleted.
		d := files(someFiles())
		w, ops := someMerger(t, d, at)
		inTheWay(d, ways)
		if n := all(t, w); n != len(ops)+3 {
			t.Errorf("%d steps", n)
		}
		loads(t, "all three came", d, merged(m, at, 5), someRows...)

		// All three go ahead of the first step: none is deleted.
		d = inTheWay(files(someFiles()), ways)
		w, ops = someMerger(t, d, at)
		for _, name := range ways {
			d.Delete(name)
		}
		if n := all(t, w); n != len(ops) {
			t.Errorf("%d steps", n)
		}
		loads(t, "all three went", d, merged(m, at, 5), someRows...)

		// delta-5 comes between the first two steps, and manifest.new goes.
		d = inTheWay(files(someFiles()), []string{"data-5", "manifest.new"})
		w, ops = someMerger(t, d, at)
		step(t, "data-5 is deleted", w, false)
		inTheWay(d, []string{"delta-5"})
		step(t, "delta-5 is deleted", w, false)
		if slices.Contains(d.Names(), "delta-5") {
			t.Error("delta-5 is there")
		}
		d.Delete("manifest.new")
		if n := all(t, w); n != len(ops) {
			t.Errorf("%d steps more", n)
		}
		loads(t, "one came, one went", d, merged(m, at, 5), someRows...)

		// What comes when the turn is over stays: the Append goes behind it.
		for name, is := range map[string]string{"delta-5": "delta-5", "manifest.new": "manifest"} {
			d = files(someFiles())
			w, _ = someMerger(t, d, at)
			step(t, name, w, false)
			inTheWay(d, []string{name})
			all(t, w)
			if b, _ := d.Read(is); !strings.HasPrefix(string(b), "in the way\xa1") {
				t.Errorf("%s: %q", is, b)
			}
		}
	}
}

// fails: a merger answers this error, again and again, and the disk is as it was, even if it would not answer it any more.
func fails(t *testing.T, what string, d *disk.Disk, w *merge.Merger, want api.Errno) {
	t.Helper()
	before, m := shown(d), w.Manifest()
	for i := range 4 {
		if done, e := w.Step(); done || e != want {
			t.Fatalf("%s: Step %d: %v, %v, not %v", what, i, done, e, want)
		}
		if i == 1 {
			d.CutAt(-1)
		}
	}
	if !reflect.DeepEqual(before, shown(d)) {
		t.Fatalf("%s: a merger that has failed has changed the disk", what)
	}
	if !sameManifests(m, w.Manifest()) {
		t.Fatalf("%s: a merger that has failed has another manifest", what)
	}
}

func TestStepsWithoutPower(t *testing.T) { // P14.3
	m, _ := some()
	for at := range 3 {
		for _, has := range subsets() {
			for cut := range 9 + len(has) {
				what := fmt.Sprint("at ", at, ", in the way ", has, ", cut at ", cut)
				d := inTheWay(files(someFiles()), has)
				w, _ := someMerger(t, d, at)
				d.CutAt(d.Ops() + cut)
				for range cut {
					step(t, what, w, false)
				}
				fails(t, what, d, w, api.ErrDiskOff)
				if cut == 8+len(has) {
					loads(t, what, d, merged(m, at, 5), someRows...) // renamed, but not synced
					continue
				}
				loads(t, what, d, m, someRows...)
				// What it has left is in nobody's way.
				all(t, begins(t, what+", again", d, m, at, merged(m, at, 5)))
				loads(t, what+", again", d, merged(m, at, 5), someRows...)
			}
		}
	}
}

func TestStepsWithoutRoom(t *testing.T) { // P14.3
	for left := range 12 {
		d := inTheWay(files(someFiles()), ways)
		w, _ := someMerger(t, d, 1)
		for d.Ops() < api.MaxOps-left {
			d.SyncDir()
		}
		for range left {
			step(t, "worn", w, false)
		}
		fails(t, fmt.Sprint("worn at ", left), d, w, api.ErrDiskFull)
	}
	// As many files as there may be: none of the three is made.
	for more := range 3 {
		d := files(someFiles())
		for n := 0; len(d.Names()) < api.MaxFiles-more; n++ {
			d.Append(fmt.Sprint("x", n), nil)
		}
		w, _ := someMerger(t, d, 1)
		for range []int{0, 2, 5}[more] {
			step(t, "many files", w, false)
		}
		fails(t, fmt.Sprint("room for ", more), d, w, api.ErrDiskFull)
		d.Delete("x0")
		fails(t, fmt.Sprint("room for ", more, " and another one"), d, w, api.ErrDiskFull)
	}
	// Each of two may be, and what comes of both has more bytes than a file may have.
	val := strings.Repeat("v", api.MaxValue)
	d, m := three(content{manyRows(0, 1500, 10, val), nil}, content{manyRows(2000, 1500, 21, val), nil})
	_, want, _ := ckpt.Load(d)
	w := begins(t, "long files", d, m, 1, merged(m, 1, 4))
	fails(t, "long files", d, w, api.ErrDiskFull)
	loads(t, "long files", d, m, want...)
}

// A disk's error other than these two: the file that is to be synced, or renamed, is gone.
func TestStepsOfMissingFiles(t *testing.T) { // P14.3
	for behind, name := range map[int]string{1: "data-5", 3: "delta-5", 6: "manifest.new", 7: "manifest.new"} {
		d := files(someFiles())
		w, _ := someMerger(t, d, 1)
		for range behind {
			step(t, name, w, false)
		}
		d.Delete(name)
		fails(t, name, d, w, api.ErrDiskNone)
		d.Append(name, nil)
		fails(t, name, d, w, api.ErrDiskNone)
	}
}

// Mergers of one disk and one manifest do not know of one another: the one that is done last counts.
func TestTwoMergers(t *testing.T) { // R4
	m, _ := some()
	d := files(someFiles())
	one := begins(t, "one", d, m, 0, merged(m, 0, 5))
	other := begins(t, "other", d, m, 2, merged(m, 2, 5))
	all(t, one)
	loads(t, "one", d, merged(m, 0, 5), someRows...)
	if n := all(t, other); n != 11 {
		t.Errorf("%d steps: data-5 and delta-5 are there", n)
	}
	loads(t, "other", d, merged(m, 2, 5), someRows...)
	step(t, "one again", one, true)
	loads(t, "one again", d, merged(m, 2, 5), someRows...)
}
