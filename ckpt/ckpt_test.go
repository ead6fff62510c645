package ckpt_test

import (
	"fmt"
	"math"
	"reflect"
	"slices"
	"strings"
	"testing"

	"varve/api"
	"varve/ckpt"
	"varve/disk"
	"varve/frame"
	"varve/num"
	"varve/record"
)

const (
	lots       = 1 << 20 // more than any file here has bytes, or any directory operations
	lastTime   = 1<<40 - 1
	lastNumber = 1<<31 - 1
)

func told(x any) string {
	s := fmt.Sprintf("%#v", x)
	return s[:min(len(s), 300)]
}

func row(key, val string, at int64) api.Row { return api.Row{Key: key, Val: val, Time: at} }

func gone(key string, at int64) api.Gone { return api.Gone{Key: key, Time: at} }

func rows(list ...api.Row) []api.Row { return list }

func gones(list ...api.Gone) []api.Gone { return list }

// manifest is one with pairs 1, 2, .. that end at these Times.
func manifest(log int, ends ...int64) api.Manifest {
	m := api.Manifest{Log: log}
	for i, to := range ends {
		m.Pairs = append(m.Pairs, api.Pair{Number: i + 1, From: m.Time, To: to})
		m.Time = to
	}
	return m
}

func sameManifests(a, b api.Manifest) bool {
	return a.Time == b.Time && a.Log == b.Log && slices.Equal(a.Pairs, b.Pairs)
}

func must(b []byte, e api.Errno) []byte {
	if e != api.OK {
		panic(e)
	}
	return b
}

// frames are the bodies' frames, one behind the other, numbered from seq on.
func frames(seq uint64, bodies ...[]byte) []byte {
	var b []byte
	for i, x := range bodies {
		b = append(b, must(frame.Put(nil, seq+uint64(i), x))...)
	}
	return b
}

func first(p api.Pair, n int) []byte {
	b := []byte("P")
	for _, x := range []int64{int64(p.Number), p.From, p.To, int64(n)} {
		b = num.Put(b, uint64(x))
	}
	return b
}

func rowBodies(list ...api.Row) [][]byte {
	var out [][]byte
	for _, r := range list {
		out = append(out, must(record.PutRow(r)))
	}
	return out
}

func goneBodies(list ...api.Gone) [][]byte {
	var out [][]byte
	for _, g := range list {
		out = append(out, must(record.PutGone(g)))
	}
	return out
}

// pairFile is a file of a pair, with these bodies behind its first one.
func pairFile(p api.Pair, bodies ...[]byte) []byte {
	return frames(0, append([][]byte{first(p, len(bodies))}, bodies...)...)
}

func dataFile(p api.Pair, list ...api.Row) []byte { return pairFile(p, rowBodies(list...)...) }

func deltaFile(p api.Pair, list ...api.Gone) []byte { return pairFile(p, goneBodies(list...)...) }

func manifestFile(m api.Manifest) []byte { return frames(0, must(record.PutManifest(m))) }

// files is a disk with these files' bytes, all of it synced.
func files(has map[string][]byte) *disk.Disk {
	d := disk.New()
	for name, b := range has {
		if e := d.Append(name, b); e != api.OK {
			panic(fmt.Sprint(name, e))
		}
	}
	return copied(d)
}

// copied is a disk with the same files, all of it synced.
func copied(d *disk.Disk) *disk.Disk { return d.Crash(api.Fate{Keep: lots, Dirs: lots}) }

// off lets the power of a disk be gone.
func off(d *disk.Disk) *disk.Disk {
	d.CutAt(0)
	d.SyncDir()
	return d
}

// worn is a disk with these files that bears so many operations more.
func worn(has map[string][]byte, more int) *disk.Disk {
	d := files(has)
	for d.Ops() < api.MaxOps-more {
		d.SyncDir()
	}
	return d
}

// shown is all that can be told of a disk without a change: its files, and what crashes leave of them.
func shown(d *disk.Disk) map[string]string {
	if d == nil {
		return nil
	}
	out := map[string]string{"ops": fmt.Sprint(d.Ops()), "now": fmt.Sprint(d.Names())}
	for dirs := range 8 {
		for _, keep := range []int{0, lots} {
			left := d.Crash(api.Fate{Keep: keep, Dirs: dirs})
			for _, name := range left.Names() {
				b, _ := left.Read(name)
				out[fmt.Sprint(dirs, keep, name)] = string(b)
			}
		}
	}
	return out
}

// sameDisks: the same files, and as much of them is synced.
func sameDisks(t *testing.T, what string, got, want *disk.Disk) {
	t.Helper()
	a, b := shown(got), shown(want)
	if reflect.DeepEqual(a, b) {
		return
	}
	for k := range b {
		if a[k] != b[k] {
			t.Fatalf("%s: the disk's %s: %q, not %q", what, k, a[k], b[k])
		}
	}
	t.Fatalf("%s: the disk has %v, not %v", what, got.Names(), want.Names())
}

// writes: Write answers a writer.
func writes(t *testing.T, what string, d *disk.Disk, m api.Manifest, to int64, log int, r []api.Row, g []api.Gone) *ckpt.Writer {
	t.Helper()
	before := shown(d)
	w, e := ckpt.Write(d, m, to, log, r, g)
	if w == nil || e != api.OK {
		t.Fatalf("%s: Write(%s, %d, %d, %s, %s): %v", what, told(m), to, log, told(r), told(g), e)
	}
	if !reflect.DeepEqual(before, shown(d)) {
		t.Fatalf("%s: Write has changed the disk", what)
	}
	return w
}

// refuses: Write answers this error, nothing beside it, and the disk is as it was.
func refuses(t *testing.T, what string, d *disk.Disk, m api.Manifest, to int64, log int, r []api.Row, g []api.Gone, want api.Errno) {
	t.Helper()
	before := shown(d)
	w, e := ckpt.Write(d, m, to, log, r, g)
	if w != nil || e != want {
		t.Fatalf("%s: Write(%s, %d, %d, %s, %s): %v, %v, not %v", what, told(m), to, log, told(r), told(g), w, e, want)
	}
	if !reflect.DeepEqual(before, shown(d)) {
		t.Fatalf("%s: Write has answered %v, and changed the disk", what, e)
	}
}

func step(t *testing.T, what string, w *ckpt.Writer, want bool) {
	t.Helper()
	if done, e := w.Step(); done != want || e != api.OK {
		t.Fatalf("%s: Step: %v, %v, not %v", what, done, e, want)
	}
}

// all does all steps of a writer: how many.
func all(t *testing.T, w *ckpt.Writer) int {
	t.Helper()
	for n := 1; n < 20; n++ {
		done, e := w.Step()
		if e != api.OK {
			t.Fatal(e)
		}
		if done {
			return n
		}
	}
	t.Fatal("a writer that is never done")
	return 0
}

// loads: Load tells this manifest and these rows, and the disk is as it was.
func loads(t *testing.T, what string, d *disk.Disk, m api.Manifest, want ...api.Row) {
	t.Helper()
	before := shown(d)
	got, list, e := ckpt.Load(d)
	if e != api.OK || !sameManifests(got, m) || !slices.Equal(list, want) {
		t.Fatalf("%s: Load: %s, %s, %v, not %s, %s", what, told(got), told(list), e, told(m), told(want))
	}
	if !reflect.DeepEqual(before, shown(d)) {
		t.Fatalf("%s: Load has changed the disk", what)
	}
}

// refusesLoad: Load answers this error, nothing beside it, and the disk is as it was.
func refusesLoad(t *testing.T, what string, d *disk.Disk, want api.Errno) {
	t.Helper()
	before := shown(d)
	m, list, e := ckpt.Load(d)
	if e != want || !sameManifests(m, api.Manifest{}) || len(list) != 0 {
		t.Fatalf("%s: Load: %s, %s, %v, not %v", what, told(m), told(list), e, want)
	}
	if !reflect.DeepEqual(before, shown(d)) {
		t.Fatalf("%s: Load has changed the disk", what)
	}
}

// cleans: Clean answers this.
func cleans(t *testing.T, what string, d *disk.Disk, m api.Manifest, want bool, wantE api.Errno) {
	t.Helper()
	if done, e := ckpt.Clean(d, m); done != want || e != wantE {
		t.Fatalf("%s: Clean(%v, %s): %v, %v, not %v, %v", what, d.Names(), told(m), done, e, want, wantE)
	}
}

func TestNames(t *testing.T) { // P12.1
	for n, digits := range map[int]string{
		0:             "0",
		1:             "1",
		-1:            "-1",
		10:            "10",
		-305:          "-305",
		lastNumber:    "2147483647",
		1 << 31:       "2147483648",
		math.MinInt64: "-9223372036854775808",
		math.MaxInt64: "9223372036854775807",
	} {
		if s := ckpt.DataName(n); s != "data-"+digits {
			t.Errorf("DataName(%d): %s", n, s)
		}
		if s := ckpt.DeltaName(n); s != "delta-"+digits {
			t.Errorf("DeltaName(%d): %s", n, s)
		}
	}
}

func TestExamples(t *testing.T) {
	d := disk.New()
	m := manifest(1)
	loads(t, "a new disk", d, m)
	w := writes(t, "the first", d, m, 9, 2, rows(row("a", "x", 5)), nil)
	for range 8 {
		step(t, "the first", w, false)
	}
	step(t, "the first", w, true)
	one := manifest(2, 9)
	loads(t, "behind the first", d, one, row("a", "x", 5))
	w = writes(t, "the second", d, one, 12, 2, rows(row("a", "y", 10)), gones(gone("a", 5)))
	all(t, w)
	loads(t, "behind the second", d, manifest(2, 9, 12), row("a", "y", 10))
	refuses(t, "to at m.Time", d, m, 0, 1, nil, nil, api.ErrCkptForm)
	refuses(t, "a row above to", d, m, 9, 1, rows(row("a", "x", 10)), nil, api.ErrCkptForm)
	for i, want := range []bool{false, false, false, true} {
		cleans(t, fmt.Sprint("Clean ", i), d, m, want, api.OK)
	}
}

// Write does not ask whether what is gone was there; Load does. (A Time of at most From, as the section Words asks: the example's own is above it.)
func TestGoneThatIsNotThere(t *testing.T) {
	d := disk.New()
	all(t, writes(t, "a pair", d, manifest(1), 9, 1, rows(row("b", "x", 5)), nil))
	for _, g := range []api.Gone{gone("a", 5), gone("b", 4), gone("b", 6), gone("b", 0), gone("b", 9)} {
		on := copied(d)
		all(t, writes(t, told(g), on, manifest(1, 9), 12, 1, nil, gones(g)))
		refusesLoad(t, told(g), on, api.ErrCkptCorrupt)
	}
	refuses(t, "above From", disk.New(), manifest(1), 9, 1, nil, gones(gone("a", 5)), api.ErrCkptForm)
	d = disk.New()
	all(t, writes(t, "at From", d, manifest(1), 9, 1, nil, gones(gone("a", 0))))
	refusesLoad(t, "at From", d, api.ErrCkptCorrupt)
}

// manyRows are so many rows of a Time, by rising keys, with values of so many bytes.
func manyRows(n int, at int64, size int) []api.Row {
	var out []api.Row
	for i := range n {
		out = append(out, row(fmt.Sprintf("%05d", i), strings.Repeat("v", size), at))
	}
	return out
}

func manyGone(n int, at int64) []api.Gone {
	var out []api.Gone
	for i := range n {
		out = append(out, gone(fmt.Sprintf("%05d", i/3), at+int64(i%3)))
	}
	return out
}

// sixteen is a manifest with as many pairs as there may be, or so many fewer.
func sixteen(fewer int) api.Manifest {
	var ends []int64
	for i := range api.MaxPairs - fewer {
		ends = append(ends, int64(i+1))
	}
	return manifest(1, ends...)
}

// numbered is a manifest whose pairs have these numbers.
func numbered(numbers ...int) api.Manifest {
	m := api.Manifest{Log: 1}
	for _, n := range numbers {
		m.Pairs = append(m.Pairs, api.Pair{Number: n, From: m.Time, To: m.Time + 1})
		m.Time++
	}
	return m
}

// wrongManifests are manifests that are not right (chapter 6), each in one way.
func wrongManifests() map[string]api.Manifest {
	base := func(change func(m *api.Manifest)) api.Manifest {
		m := manifest(3, 5, 8)
		change(&m)
		return m
	}
	seventeen := sixteen(0)
	seventeen.Pairs = append(seventeen.Pairs, api.Pair{Number: 17, From: 16, To: 17})
	seventeen.Time = 17
	return map[string]api.Manifest{
		"zero":            {},
		"Log 0":           base(func(m *api.Manifest) { m.Log = 0 }),
		"Log below 0":     base(func(m *api.Manifest) { m.Log = -1 }),
		"Log above":       base(func(m *api.Manifest) { m.Log = 1 << 31 }),
		"a later Time":    base(func(m *api.Manifest) { m.Time = 9 }),
		"an earlier Time": base(func(m *api.Manifest) { m.Time = 7 }),
		"Time of none":    {Time: 1, Log: 1},
		"Time below 0":    {Time: -1, Log: 1},
		"Time MaxTime":    base(func(m *api.Manifest) { m.Time, m.Pairs[1].To = api.MaxTime, api.MaxTime }),
		"From above 0":    base(func(m *api.Manifest) { m.Pairs[0].From = 1 }),
		"a gap":           base(func(m *api.Manifest) { m.Pairs[1].From = 6 }),
		"an overlap":      base(func(m *api.Manifest) { m.Pairs[1].From = 4 }),
		"an empty pair":   base(func(m *api.Manifest) { m.Pairs[0].To, m.Pairs[1].From = 0, 0 }),
		"Number 0":        base(func(m *api.Manifest) { m.Pairs[0].Number = 0 }),
		"Number below 0":  base(func(m *api.Manifest) { m.Pairs[1].Number = -1 }),
		"Number above":    base(func(m *api.Manifest) { m.Pairs[1].Number = 1 << 31 }),
		"Number twice":    base(func(m *api.Manifest) { m.Pairs[1].Number = 1 }),
		"seventeen pairs": seventeen,
	}
}

func TestWriteOfManifests(t *testing.T) { // P12.2
	d := disk.New()
	for what, m := range wrongManifests() {
		refuses(t, what, d, m, 20, max(m.Log, 1), nil, nil, api.ErrCkptForm)
		refuses(t, what, d, m, lastTime, lastNumber, nil, nil, api.ErrCkptForm)
	}
	refuses(t, "16 pairs", d, sixteen(0), 20, 1, nil, nil, api.ErrCkptForm)
	writes(t, "15 pairs", d, sixteen(1), 20, 1, nil, nil)
	for _, c := range []struct {
		what string
		m    api.Manifest
		want int // 0: refused
	}{
		{"none", numbered(), 1},
		{"1", numbered(1), 2},
		{"a greater one ahead", numbered(7, 3, 5), 8},
		{"a greater one behind", numbered(3, 9), 10},
		{"not all taken", numbered(2), 3},
		{"one ahead of the last", numbered(lastNumber-1, 4), lastNumber},
		{"the last", numbered(lastNumber), 0},
		{"the last, ahead", numbered(lastNumber, 1), 0},
	} {
		if c.want == 0 {
			refuses(t, c.what, d, c.m, 20, 1, nil, nil, api.ErrCkptForm)
			continue
		}
		got := writes(t, c.what, d, c.m, 20, 1, nil, nil).Manifest()
		want := api.Manifest{Time: 20, Log: 1, Pairs: append(slices.Clone(c.m.Pairs), api.Pair{Number: c.want, From: c.m.Time, To: 20})}
		if !sameManifests(got, want) {
			t.Errorf("%s: %s, not %s", c.what, told(got), told(want))
		}
	}
}

func TestWriteOfTimesAndLogs(t *testing.T) { // P12.2
	d := disk.New()
	for _, m := range []api.Manifest{manifest(4), manifest(4, 9), manifest(4, 9, 12)} {
		for to, right := range map[int64]bool{
			math.MinInt64: false, -1: false,
			m.Time - 1: false, m.Time: false, m.Time + 1: true, m.Time + 2: true,
			lastTime: true, lastTime + 1: false, math.MaxInt64: false,
		} {
			if !right {
				refuses(t, "to", d, m, to, 4, nil, nil, api.ErrCkptForm)
				continue
			}
			if got := writes(t, "to", d, m, to, 4, nil, nil).Manifest(); got.Time != to || got.Pairs[len(m.Pairs)] != (api.Pair{Number: len(m.Pairs) + 1, From: m.Time, To: to}) {
				t.Errorf("to %d: %s", to, told(got))
			}
		}
		for log, right := range map[int]bool{
			math.MinInt64: false, -1: false, 0: false, 1: false, 3: false,
			4: true, 5: true, lastNumber: true, lastNumber + 1: false, math.MaxInt64: false,
		} {
			if !right {
				refuses(t, "log", d, m, 20, log, nil, nil, api.ErrCkptForm)
				continue
			}
			if got := writes(t, "log", d, m, 20, log, nil, nil).Manifest(); got.Log != log {
				t.Errorf("log %d: %s", log, told(got))
			}
		}
	}
	refuses(t, "no Time is left", d, manifest(1, lastTime), lastTime, 1, nil, nil, api.ErrCkptForm)
	refuses(t, "no Time is left", d, manifest(1, lastTime), lastTime+1, 1, nil, nil, api.ErrCkptForm)
}

func TestWriteOfRows(t *testing.T) { // P12.2: a pair from 9 to 12
	d := disk.New()
	m := manifest(1, 9)
	long := strings.Repeat("k", api.MaxKey)
	for _, c := range []struct {
		what  string
		right bool
		list  []api.Row
	}{
		{"none", true, nil},
		{"empty", true, []api.Row{}},
		{"one", true, rows(row("a", "x", 10))},
		{"rising", true, rows(row("a", "x", 12), row("aa", "", 10), row("b", "x", 10), row("b\x00", "x", 11), row("\xff", "x", 12))},
		{"equal", false, rows(row("a", "x", 10), row("a", "x", 10))},
		{"equal, at other Times", false, rows(row("a", "x", 10), row("a", "y", 11))},
		{"falling", false, rows(row("b", "x", 10), row("a", "x", 11))},
		{"falling at the end", false, rows(row("a", "x", 10), row("c", "x", 11), row("b", "x", 12))},
		{"falling bytewise", false, rows(row("\xff", "x", 10), row("a", "x", 11))},
		{"below From", false, rows(row("a", "x", 8))},
		{"at From", false, rows(row("a", "x", 9))},
		{"just above From", true, rows(row("a", "x", 10))},
		{"at To", true, rows(row("a", "x", 12))},
		{"above To", false, rows(row("a", "x", 13))},
		{"the last above To", false, rows(row("a", "x", 10), row("b", "x", 13))},
		{"the first at From", false, rows(row("a", "x", 9), row("b", "x", 10))},
		{"below 0", false, rows(row("a", "x", -1))},
		{"the least Time", false, rows(row("a", "x", math.MinInt64))},
		{"the greatest Time", false, rows(row("a", "x", math.MaxInt64))},
		{"an empty key", false, rows(row("", "x", 10))},
		{"a long key", true, rows(row(long, "x", 10))},
		{"too long a key", false, rows(row(long+"k", "x", 10))},
		{"too long a key at the end", false, rows(row("a", "x", 10), row(long+"k", "x", 10))},
		{"a long value", true, rows(row("a", strings.Repeat("v", api.MaxValue), 10))},
		{"too long a value", false, rows(row("a", strings.Repeat("v", api.MaxValue+1), 10))},
		{"4096", true, manyRows(4096, 11, 0)},
		{"4097", false, manyRows(4097, 11, 0)},
	} {
		if c.right {
			writes(t, c.what, d, m, 12, 1, c.list, nil)
			continue
		}
		refuses(t, c.what, d, m, 12, 1, c.list, nil, api.ErrCkptForm)
		refuses(t, c.what, d, m, 12, 1, c.list, gones(gone("a", 9)), api.ErrCkptForm)
	}
}

func TestWriteOfGone(t *testing.T) { // P12.2: a pair from 9 to 12
	d := disk.New()
	m := manifest(1, 9)
	long := strings.Repeat("k", api.MaxKey)
	for _, c := range []struct {
		what  string
		right bool
		list  []api.Gone
	}{
		{"none", true, nil},
		{"empty", true, []api.Gone{}},
		{"one", true, gones(gone("a", 5))},
		{"rising", true, gones(gone("a", 9), gone("aa", 1), gone("b", 1), gone("b\x00", 0), gone("\xff", 2))},
		{"falling", false, gones(gone("b", 1), gone("a", 2))},
		{"falling at the end", false, gones(gone("a", 1), gone("c", 2), gone("b", 3))},
		{"falling bytewise", false, gones(gone("\xff", 1), gone("a", 2))},
		{"one key, rising Times", true, gones(gone("a", 1), gone("a", 2), gone("a", 9), gone("b", 1))},
		{"one key, equal Times", false, gones(gone("a", 1), gone("a", 1))},
		{"one key, equal Times, behind others", false, gones(gone("a", 1), gone("b", 1), gone("b", 2), gone("b", 2))},
		{"one key, falling Times", false, gones(gone("a", 2), gone("a", 1))},
		{"at 0", true, gones(gone("a", 0))},
		{"at From", true, gones(gone("a", 9))},
		{"just above From", false, gones(gone("a", 10))},
		{"at To", false, gones(gone("a", 12))},
		{"the last above From", false, gones(gone("a", 1), gone("b", 10))},
		{"the first above From", false, gones(gone("a", 10), gone("b", 9))},
		{"below 0", false, gones(gone("a", -1))},
		{"the least Time", false, gones(gone("a", math.MinInt64))},
		{"the greatest Time", false, gones(gone("a", math.MaxInt64))},
		{"an empty key", false, gones(gone("", 1))},
		{"a long key", true, gones(gone(long, 1))},
		{"too long a key", false, gones(gone(long+"k", 1))},
		{"4096", true, manyGone(4096, 3)},
		{"4097", false, manyGone(4097, 3)},
	} {
		if c.right {
			writes(t, c.what, d, m, 12, 1, nil, c.list)
			continue
		}
		refuses(t, c.what, d, m, 12, 1, nil, c.list, api.ErrCkptForm)
		refuses(t, c.what, d, m, 12, 1, rows(row("a", "x", 10)), c.list, api.ErrCkptForm)
	}
	writes(t, "a row of a key that is gone", d, m, 12, 1, rows(row("a", "x", 10)), gones(gone("a", 9)))
}

func TestWriteFirstError(t *testing.T) { // P12.2
	refuses(t, "nil", nil, manifest(1), 9, 1, nil, nil, api.ErrNil)
	refuses(t, "nil and all wrong", nil, api.Manifest{Time: -1}, -1, -1, rows(row("", "", -1)), gones(gone("", -1)), api.ErrNil)
	refuses(t, "all wrong", disk.New(), api.Manifest{Time: -1}, -1, -1, rows(row("", "", -1)), gones(gone("", -1)), api.ErrCkptForm)
	refuses(t, "wrong, without power", off(disk.New()), manifest(1), 0, 1, nil, nil, api.ErrCkptForm)
	w := writes(t, "right, without power", off(disk.New()), manifest(1), 9, 1, nil, nil)
	if done, e := w.Step(); done || e != api.ErrDiskOff {
		t.Errorf("Step without power: %v, %v", done, e)
	}
}

// op is an operation that a writer should do.
type op func(d *disk.Disk) api.Errno

func deletes(name string) op {
	return func(d *disk.Disk) api.Errno { return d.Delete(name) }
}

func appends(name string, b []byte) op {
	return func(d *disk.Disk) api.Errno { return d.Append(name, b) }
}

func syncs(name string) op {
	return func(d *disk.Disk) api.Errno { return d.Sync(name) }
}

func syncsDir(d *disk.Disk) api.Errno { return d.SyncDir() }

func renames(d *disk.Disk) api.Errno { return d.Rename("manifest.new", "manifest") }

// someWrite is a write behind a pair: what is to be written, and the operations that do it on a disk with none of its files.
func someWrite(t *testing.T, d *disk.Disk) (*ckpt.Writer, []op) {
	t.Helper()
	m := manifest(2, 9)
	r, g := rows(row("a", "y", 10), row("c", strings.Repeat("z", api.MaxValue), 12)), gones(gone("a", 5), gone("b", 9))
	next := manifest(3, 9, 12)
	data, delta, man := dataFile(next.Pairs[1], r...), deltaFile(next.Pairs[1], g...), manifestFile(next)
	return writes(t, "some", d, m, 12, 3, r, g), []op{
		appends("data-2", data), syncs("data-2"),
		appends("delta-2", delta), syncs("delta-2"),
		syncsDir,
		appends("manifest.new", man), syncs("manifest.new"),
		renames,
		syncsDir,
	}
}

// some has the files of a manifest with a pair, to which someWrite writes another one.
func some() map[string][]byte {
	m := manifest(2, 9)
	return map[string][]byte{
		"manifest": manifestFile(m),
		"data-1":   dataFile(m.Pairs[0], row("a", "x", 5), row("b", "y", 9), row("d", "", 1)),
		"delta-1":  deltaFile(m.Pairs[0]),
		"log-2":    []byte("another one's"),
	}
}

var someRows = rows(row("a", "x", 5), row("b", "y", 9), row("d", "", 1))

func someRowsBehind() []api.Row {
	return rows(row("a", "y", 10), row("c", strings.Repeat("z", api.MaxValue), 12), row("d", "", 1))
}

// subsets of the files that a writer finds in its way: beside some of them, the operations that take them away.
func subsets() map[string][]string {
	out := map[string][]string{}
	names := []string{"data-2", "delta-2", "manifest.new"}
	for bits := range 8 {
		var has []string
		for i, name := range names {
			if bits>>i&1 == 1 {
				has = append(has, name)
			}
		}
		out[fmt.Sprint(has)] = has
	}
	return out
}

// inTheWay lays files on a disk, partly synced.
func inTheWay(d *disk.Disk, has []string) *disk.Disk {
	for _, name := range has {
		d.Append(name, []byte("in the "))
		d.Sync(name)
		d.Append(name, []byte("way"))
	}
	return d
}

func TestSteps(t *testing.T) { // P12.3
	for what, has := range subsets() {
		d, want := inTheWay(files(some()), has), inTheWay(files(some()), has)
		w, ops := someWrite(t, d)
		var todo []op
		for _, name := range has {
			todo = append(todo, deletes(name))
		}
		todo = append(todo, ops...)
		for i, o := range todo {
			at := fmt.Sprint(what, " step ", i+1)
			if e := o(want); e != api.OK {
				t.Fatal(at, e)
			}
			step(t, at, w, i == len(todo)-1)
			sameDisks(t, at, d, want)
		}
		for range 3 {
			step(t, what+" behind the last", w, true)
			sameDisks(t, what+" behind the last", d, want)
		}
		loads(t, what, d, manifest(3, 9, 12), someRowsBehind()...)
		loads(t, what, d.Crash(api.Fate{}), manifest(3, 9, 12), someRowsBehind()...)
		d.CutAt(0)
		d.SyncDir()
		step(t, what+" done, without power", w, true)
	}
}

// The bytes of all files, one by one.
func TestStepsBytes(t *testing.T) { // Words
	d := disk.New()
	all(t, writes(t, "", d, manifest(1), 300, 2, rows(row("k", "v", 1)), gones(gone("a", 0))))
	block := func(body string) string {
		return string(must(frame.Put(nil, 0, []byte(body))))
	}
	second := func(body string) string {
		return string(must(frame.Put(nil, 1, []byte(body))))
	}
	for name, want := range map[string]string{
		"data-1":   block("P\x01\x00\xac\x02\x01") + second("R\x01k\x01v\x01"),
		"delta-1":  block("P\x01\x00\xac\x02\x01") + second("G\x01a\x00"),
		"manifest": block("M\xac\x02\x02\x01\x01\x00\xac\x02"),
	} {
		if b, e := d.Read(name); e != api.OK || string(b) != want {
			t.Errorf("%s: %x, %v, not %x", name, b, e, want)
		}
	}
	if names := d.Names(); len(names) != 3 {
		t.Error(names)
	}
}

// Whether a file is there is asked when its turn comes, neither when the writer is made nor again.
func TestStepsTurns(t *testing.T) { // P12.3
	// All three come behind Write: all three are deleted.
	d := files(some())
	w, ops := someWrite(t, d)
	inTheWay(d, []string{"data-2", "delta-2", "manifest.new"})
	if n := all(t, w); n != len(ops)+3 {
		t.Errorf("%d steps", n)
	}
	loads(t, "all three came", d, manifest(3, 9, 12), someRowsBehind()...)

	// All three go ahead of the first step: none is deleted.
	d = inTheWay(files(some()), []string{"data-2", "delta-2", "manifest.new"})
	w, ops = someWrite(t, d)
	for _, name := range []string{"data-2", "delta-2", "manifest.new"} {
		d.Delete(name)
	}
	if n := all(t, w); n != len(ops) {
		t.Errorf("%d steps", n)
	}
	loads(t, "all three went", d, manifest(3, 9, 12), someRowsBehind()...)

	// delta-2 comes between the first two steps, and manifest.new goes.
	d = inTheWay(files(some()), []string{"data-2", "manifest.new"})
	w, ops = someWrite(t, d)
	step(t, "data-2 is deleted", w, false)
	inTheWay(d, []string{"delta-2"})
	step(t, "delta-2 is deleted", w, false)
	if slices.Contains(d.Names(), "delta-2") {
		t.Error("delta-2 is there")
	}
	d.Delete("manifest.new")
	if n := all(t, w); n != len(ops) {
		t.Errorf("%d steps more", n)
	}
	loads(t, "one came, one went", d, manifest(3, 9, 12), someRowsBehind()...)

	// What comes when the turn is over stays: the Append goes behind it.
	for name, at := range map[string]int{"delta-2": 1, "manifest.new": 1, "data-2": 1} {
		d = files(some())
		if name == "data-2" {
			inTheWay(d, []string{"delta-2"}) // so that the first step is none of data-2's
		}
		w, ops = someWrite(t, d)
		for range at {
			step(t, name, w, false)
		}
		inTheWay(d, []string{name})
		all(t, w)
		is := map[string]string{"delta-2": "delta-2", "manifest.new": "manifest", "data-2": "data-2"}[name]
		if b, _ := d.Read(is); !strings.HasPrefix(string(b), "in the way\xa1") {
			t.Errorf("%s: %q", is, b)
		}
		refusesLoad(t, name, d, api.ErrCkptCorrupt)
	}
}

// fails: a writer answers this error, again and again, and the disk is as it was, even if it would not answer it any more.
func fails(t *testing.T, what string, d *disk.Disk, w *ckpt.Writer, want api.Errno) {
	t.Helper()
	before, m := shown(d), w.Manifest()
	for i := range 4 {
		if done, e := w.Step(); done || e != want {
			t.Fatalf("%s: Step %d: %v, %v, not %v", what, i, done, e, want)
		}
		if i == 1 {
			d.CutAt(-1)
		}
	}
	if !reflect.DeepEqual(before, shown(d)) {
		t.Fatalf("%s: a writer that has failed has changed the disk", what)
	}
	if !sameManifests(m, w.Manifest()) {
		t.Fatalf("%s: a writer that has failed has another manifest", what)
	}
}

func TestStepsWithoutPower(t *testing.T) { // P12.3
	for what, has := range subsets() {
		for at := range 9 + len(has) {
			d := inTheWay(files(some()), has)
			w, _ := someWrite(t, d)
			d.CutAt(d.Ops() + at)
			for range at {
				step(t, what, w, false)
			}
			fails(t, fmt.Sprint(what, " cut at ", at), d, w, api.ErrDiskOff)
			if at < 8+len(has) {
				loads(t, what, d, manifest(2, 9), someRows...)
			} else {
				loads(t, what, d, manifest(3, 9, 12), someRowsBehind()...) // renamed, but not synced
			}
		}
	}
}

func TestStepsWithoutRoom(t *testing.T) { // P12.3
	for at := range 12 {
		d := inTheWay(worn(some(), 12), []string{"data-2", "delta-2", "manifest.new"})
		w, _ := someWrite(t, d)
		for d.Ops() < api.MaxOps-at {
			d.SyncDir()
		}
		more := api.MaxOps - d.Ops()
		for range more {
			step(t, "worn", w, false)
		}
		fails(t, fmt.Sprint("worn at ", at), d, w, api.ErrDiskFull)
	}
	// 64 files: neither a first file nor a second one is made.
	for more := range 3 {
		d := files(some())
		for n := 0; len(d.Names()) < api.MaxFiles-more; n++ {
			d.Append(fmt.Sprint("x", n), nil)
		}
		w, _ := someWrite(t, d)
		for range []int{0, 2, 5}[more] {
			step(t, "many files", w, false)
		}
		fails(t, fmt.Sprint("room for ", more), d, w, api.ErrDiskFull)
		d.Delete("x0")
		fails(t, fmt.Sprint("room for ", more, " and another one"), d, w, api.ErrDiskFull)
	}
	// Files that would be too long.
	d := disk.New()
	w := writes(t, "long rows", d, manifest(1), 9, 1, manyRows(4096, 5, 64), nil)
	fails(t, "long rows", d, w, api.ErrDiskFull)
	d = files(some())
	var g []api.Gone
	for i := range 4096 {
		g = append(g, gone(fmt.Sprintf("%016d", i), 9))
	}
	w = writes(t, "much that is gone", d, manifest(2, 9), lastTime, 2, nil, g)
	step(t, "much that is gone", w, false)
	step(t, "much that is gone", w, false)
	fails(t, "much that is gone", d, w, api.ErrDiskFull)
	loads(t, "much that is gone", d, manifest(2, 9), someRows...)
}

// A disk's error other than these two: the file that is to be synced, or renamed, is gone.
func TestStepsOfMissingFiles(t *testing.T) { // P12.3
	for at, name := range map[int]string{1: "data-2", 3: "delta-2", 6: "manifest.new", 7: "manifest.new"} {
		d := files(some())
		w, _ := someWrite(t, d)
		for range at {
			step(t, name, w, false)
		}
		d.Delete(name)
		fails(t, name, d, w, api.ErrDiskNone)
		d.Append(name, nil)
		fails(t, name, d, w, api.ErrDiskNone)
	}
}

func TestNilWriter(t *testing.T) { // P12.2, P12.3
	var w *ckpt.Writer
	if done, e := w.Step(); done || e != api.ErrNil {
		t.Error(done, e)
	}
	if m := w.Manifest(); !sameManifests(m, api.Manifest{}) {
		t.Error(m)
	}
}

func TestManifest(t *testing.T) { // P12.2
	d := files(some())
	w, ops := someWrite(t, d)
	want := manifest(3, 9, 12)
	for i := range len(ops) + 2 {
		m := w.Manifest()
		if !sameManifests(m, want) {
			t.Fatalf("behind %d steps: %s", i, told(m))
		}
		for k := range m.Pairs {
			m.Pairs[k] = api.Pair{Number: 77} // what is answered is the caller's
		}
		m.Pairs = append(m.Pairs, api.Pair{Number: 78})
		w.Step()
	}
	loads(t, "behind all steps", d, want, someRowsBehind()...)
}

func TestLoad(t *testing.T) { // P12.4
	refusesLoad(t, "nil", nil, api.ErrNil)
	refusesLoad(t, "without power", off(disk.New()), api.ErrDiskOff)
	refusesLoad(t, "without power, with files", off(files(some())), api.ErrDiskOff)
	loads(t, "new", disk.New(), manifest(1))
	no := some()
	delete(no, "manifest")
	loads(t, "no manifest", files(no), manifest(1))
	no["manifest.new"] = manifestFile(manifest(2, 9))
	loads(t, "a new one", files(no), manifest(1))
	loads(t, "one pair", files(some()), manifest(2, 9), someRows...)
	d := files(some())
	d.CutAt(0) // the power goes at the next operation, and Load does none
	loads(t, "power that is about to go", d, manifest(2, 9), someRows...)
	loads(t, "no pairs", files(map[string][]byte{"manifest": manifestFile(manifest(lastNumber))}), manifest(lastNumber))
	loads(t, "empty pairs", files(map[string][]byte{
		"manifest":         manifestFile(numbered(lastNumber, 4)),
		"data-4":           pairFile(api.Pair{Number: 4, From: 1, To: 2}),
		"delta-4":          pairFile(api.Pair{Number: 4, From: 1, To: 2}),
		"data-2147483647":  pairFile(api.Pair{Number: lastNumber, From: 0, To: 1}),
		"delta-2147483647": pairFile(api.Pair{Number: lastNumber, From: 0, To: 1}),
	}), numbered(lastNumber, 4))
}

// Rows come by rising keys, whichever pair they are of.
func TestLoadOrder(t *testing.T) { // P12.4
	d := disk.New()
	var want []api.Row
	for k := range 16 {
		var list []api.Row
		for i := range 40 {
			key := string([]byte{byte(i*6 + 15), byte((i + k*7) % 16 * 16), byte(k)})
			list = append(list, row(key, fmt.Sprint(k, i), int64(k+1)))
		}
		want = append(want, list...)
		all(t, writes(t, "a pair", d, sixteen(16-k), int64(k+1), 1, list, nil))
	}
	slices.SortFunc(want, func(x, y api.Row) int { return strings.Compare(x.Key, y.Key) })
	for range 5 {
		loads(t, "640 rows", d, sixteen(0), want...)
	}
}

// Two pairs, of which the tests of Load turn something: the second one takes a row of the first one away, and puts another one in its place.
func two() map[string][]byte {
	m := manifest(2, 9, 12)
	return map[string][]byte{
		"manifest": manifestFile(m),
		"data-1":   dataFile(m.Pairs[0], row("a", "x", 5), row("b", "y", 9), row("d", "", 1)),
		"delta-1":  deltaFile(m.Pairs[0]),
		"data-2":   dataFile(m.Pairs[1], row("a", "y", 10), row("c", "z", 12)),
		"delta-2":  deltaFile(m.Pairs[1], gone("a", 5), gone("b", 9)),
	}
}

func TestLoadTwo(t *testing.T) { // P12.4
	loads(t, "two", files(two()), manifest(2, 9, 12), row("a", "y", 10), row("c", "z", 12), row("d", "", 1))
}

// corrupt: with these bytes in the place of one of two's files Load answers ErrCkptCorrupt.
func corrupt(t *testing.T, what, name string, b []byte) {
	t.Helper()
	has := two()
	has[name] = b
	refusesLoad(t, name+" "+what, files(has), api.ErrCkptCorrupt)
}

// fine: the same, but Load tells these rows.
func fine(t *testing.T, what, name string, b []byte, want ...api.Row) {
	t.Helper()
	has := two()
	has[name] = b
	loads(t, name+" "+what, files(has), manifest(2, 9, 12), want...)
}

func TestLoadOfManifests(t *testing.T) { // P12.4
	right := two()["manifest"]
	body := must(record.PutManifest(manifest(2, 9, 12)))
	corrupt(t, "of another number", "manifest", frames(1, body))
	corrupt(t, "of a great number", "manifest", frames(math.MaxUint64, body))
	corrupt(t, "doubled", "manifest", append(slices.Clone(right), right...))
	corrupt(t, "with a frame behind it", "manifest", frames(0, body, body))
	corrupt(t, "with an empty frame behind it", "manifest", frames(0, body, nil))
	corrupt(t, "behind an empty frame", "manifest", frames(0, nil, body))
	corrupt(t, "without a frame", "manifest", body)
	corrupt(t, "of no body", "manifest", frames(0, nil))
	corrupt(t, "of another body", "manifest", frames(0, rowBodies(row("a", "x", 5))[0]))
	corrupt(t, "of a body that goes on", "manifest", frames(0, append(slices.Clone(body), 0)))
	corrupt(t, "of a body that ends early", "manifest", frames(0, body[:len(body)-1]))
	for text, what := range map[string]string{
		"M\x05\x01\x00":                             "a Time of no pairs",
		"M\x00\x00\x00":                             "Log 0",
		"M\x0c\x02\x02\x01\x00\x09\x02\x08\x0c":     "an overlap",
		"M\x0c\x02\x02\x01\x00\x09\x01\x09\x0c":     "a Number twice",
		"M\x0c\x02\x02\x01\x00\x09\x00\x09\x0c":     "a Number 0",
		"M\x0c\x02\x02\x01\x00\x89\x00\x02\x09\x0c": "a number in another form",
	} {
		corrupt(t, what, "manifest", frames(0, []byte(text)))
	}
	fine(t, "as it is", "manifest", frames(0, []byte("M\x0c\x02\x02\x01\x00\x09\x02\x09\x0c")), row("a", "y", 10), row("c", "z", 12), row("d", "", 1))
	fineOf := func(what string, m api.Manifest) {
		has := two()
		has["manifest"] = manifestFile(m)
		loads(t, what, files(has), m, someRows...)
	}
	fineOf("one that names the first pair alone", manifest(7, 9))
}

// Each file, cut short at each place, and longer.
func TestLoadOfLengths(t *testing.T) { // P12.4
	for name, right := range two() {
		for n := range len(right) {
			corrupt(t, fmt.Sprint("cut at ", n), name, right[:n])
		}
		for _, more := range []string{"\x00", "\xa1", "x", strings.Repeat("\x00", 31), strings.Repeat("\x00", 32), strings.Repeat("\x00", 33), strings.Repeat("\xff", 64)} {
			corrupt(t, fmt.Sprintf("longer by %d", len(more)), name, append(slices.Clone(right), more...))
		}
		// Frames that All takes for what a crash has torn: of numbers that were there already.
		corrupt(t, "doubled", name, append(slices.Clone(right), right...))
		corrupt(t, "and its first frame again", name, append(slices.Clone(right), right[:32]...))
		corrupt(t, "behind noughts", name, append(make([]byte, 32), right...))
		has := two()
		delete(has, name)
		if name == "manifest" {
			loads(t, "no manifest", files(has), manifest(1))
			continue
		}
		refusesLoad(t, "no "+name, files(has), api.ErrCkptCorrupt)
		has[strings.Replace(name, "-", "-0", 1)] = right
		refusesLoad(t, name+" under another name", files(has), api.ErrCkptCorrupt)
	}
}

func TestLoadOfFirstFrames(t *testing.T) { // P12.4
	p := api.Pair{Number: 2, From: 9, To: 12}
	for name, bodies := range map[string][][]byte{
		"data-2":  rowBodies(row("a", "y", 10), row("c", "z", 12)),
		"delta-2": goneBodies(gone("a", 5), gone("b", 9)),
	} {
		with := func(first []byte) []byte { return frames(0, append([][]byte{first}, bodies...)...) }
		fine(t, "as it is", name, with(first(p, 2)), row("a", "y", 10), row("c", "z", 12), row("d", "", 1))
		for what, b := range map[string][]byte{
			"another N":            first(api.Pair{Number: 1, From: 9, To: 12}, 2),
			"a greater N":          first(api.Pair{Number: 258, From: 9, To: 12}, 2),
			"another From":         first(api.Pair{Number: 2, From: 8, To: 12}, 2),
			"From 0":               first(api.Pair{Number: 2, From: 0, To: 12}, 2),
			"another To":           first(api.Pair{Number: 2, From: 9, To: 13}, 2),
			"an earlier To":        first(api.Pair{Number: 2, From: 9, To: 11}, 2),
			"one fewer":            first(p, 1),
			"one more":             first(p, 3),
			"none":                 first(p, 0),
			"too many":             first(p, 1<<32+2),
			"the manifest's N":     first(api.Pair{Number: 0, From: 9, To: 12}, 2),
			"another byte ahead":   append([]byte("Q"), first(p, 2)[1:]...),
			"no byte ahead":        first(p, 2)[1:],
			"more behind":          append(first(p, 2), 0),
			"less behind":          first(p, 2)[:4],
			"nothing":              nil,
			"numbers otherwise":    []byte("P\x82\x00\x09\x0c\x02"),
			"how many, otherwise":  []byte("P\x02\x09\x0c\x82\x00"),
			"a body of a manifest": must(record.PutManifest(manifest(2, 9, 12))),
		} {
			corrupt(t, what, name, with(b))
		}
		all := append([][]byte{first(p, 2)}, bodies...)
		corrupt(t, "numbered from 1 on", name, frames(1, all...))
		corrupt(t, "numbered from 2^64 - 1 on", name, frames(math.MaxUint64, all...))
		corrupt(t, "a number left out", name, append(frames(0, all[:2]...), frames(3, all[2])...))
		corrupt(t, "a number twice", name, append(frames(0, all[:2]...), frames(1, all[2])...))
		corrupt(t, "no first frame", name, frames(0, bodies...))
		corrupt(t, "two first frames", name, frames(0, append([][]byte{first(p, 3)}, all...)...))
		corrupt(t, "no frames", name, nil)
		corrupt(t, "a frame more than it says", name, frames(0, append(slices.Clone(all), bodies[1])...))
	}
}

func TestLoadOfRows(t *testing.T) { // P12.4: the data file of a pair from 9 to 12, behind which d is there, and neither a nor b
	p := api.Pair{Number: 2, From: 9, To: 12}
	d := row("d", "", 1)
	for _, c := range []struct {
		what  string
		right bool
		list  []api.Row
	}{
		{"none", true, nil},
		{"rising", true, rows(row("a", "x", 12), row("b", "x", 10), row("b\x00", "x", 11))},
		{"equal", false, rows(row("a", "x", 10), row("a", "x", 10))},
		{"falling", false, rows(row("b", "x", 10), row("a", "x", 11))},
		{"at From", false, rows(row("a", "x", 9))},
		{"below From", false, rows(row("a", "x", 5))},
		{"at 0", false, rows(row("a", "x", 0))},
		{"just above From", true, rows(row("a", "x", 10))},
		{"at To", true, rows(row("a", "x", 12))},
		{"above To", false, rows(row("a", "x", 13))},
		{"the last above To", false, rows(row("a", "x", 10), row("b", "x", 13))},
		{"a key that is there", false, rows(d)},
		{"a key that is there, of a right Time", false, rows(row("c", "z", 12), row("d", "", 10))},
	} {
		if c.right {
			fine(t, c.what, "data-2", dataFile(p, c.list...), append(slices.Clone(c.list), d)...)
			continue
		}
		corrupt(t, c.what, "data-2", dataFile(p, c.list...))
	}
	long := strings.Repeat("k", api.MaxKey+1)
	for what, body := range map[string]string{
		"an empty key":             "R\x00\x01x\x0a",
		"too long a key":           "R\x11" + long + "\x01x\x0a",
		"too long a value":         "R\x01a\x41" + strings.Repeat("v", api.MaxValue+1) + "\x0a",
		"too great a Time":         "R\x01a\x01x\x80\x80\x80\x80\x80\x20",
		"no Time":                  "R\x01a\x01x",
		"bytes behind":             "R\x01a\x01x\x0a\x00",
		"a Time in another form":   "R\x01a\x01x\x8a\x00",
		"nothing":                  "",
		"what is gone":             string(goneBodies(gone("a", 10))[0]),
		"the first frame's":        string(first(p, 1)),
		"a commit of another file": "C\x0a\x00",
	} {
		corrupt(t, what, "data-2", pairFile(p, []byte(body)))
		corrupt(t, what+" behind a right one", "data-2", pairFile(p, append(rowBodies(row("a", "", 10)), []byte(body))...))
		corrupt(t, what+" ahead of a right one", "data-2", pairFile(p, append([][]byte{[]byte(body)}, rowBodies(row("c", "", 10))...)...))
	}
	fine(t, "by its bytes", "data-2", pairFile(p, []byte("R\x01a\x01x\x0a")), row("a", "x", 10), d)
}

func TestLoadOfGone(t *testing.T) { // P12.4: the delta file of a pair from 9 to 12, ahead of which a is there at 5, b at 9, d at 1
	p := api.Pair{Number: 2, From: 9, To: 12}
	a, b := gone("a", 5), gone("b", 9)
	ay, cz := row("a", "y", 10), row("c", "z", 12)
	fine(t, "a", "delta-2", deltaFile(p, a), ay, row("b", "y", 9), cz, row("d", "", 1))
	fine(t, "a, d", "delta-2", deltaFile(p, a, gone("d", 1)), ay, row("b", "y", 9), cz)
	fine(t, "all", "delta-2", deltaFile(p, a, b, gone("d", 1)), ay, cz)
	for what, list := range map[string][]api.Gone{
		"none: a is there twice":         nil,
		"b: a is there twice":            {b},
		"falling":                        {b, a},
		"equal":                          {a, a},
		"equal at the end":               {a, b, b},
		"one key, Times that fall":       {a, gone("a", 4)},
		"one key, Times that rise":       {gone("a", 4), a},
		"one key, Times that rise on":    {a, gone("a", 6)},
		"above From":                     {gone("a", 10)},
		"a later Time":                   {gone("a", 6)},
		"an earlier Time":                {gone("a", 4)},
		"no Time":                        {gone("a", 0)},
		"a key that is not there":        {a, gone("aa", 5)},
		"a key that is not there, at 0":  {a, gone("aa", 0)},
		"a row that comes with the pair": {a, gone("c", 12)},
		"its own row":                    {a, gone("c", 9)},
	} {
		corrupt(t, what, "delta-2", deltaFile(p, list...))
	}
	corrupt(t, "of the first pair", "delta-1", deltaFile(api.Pair{Number: 1, From: 0, To: 9}, gone("a", 0)))
	corrupt(t, "of the first pair, its own row", "delta-1", deltaFile(api.Pair{Number: 1, From: 0, To: 9}, gone("a", 5)))
	for what, body := range map[string]string{
		"an empty key":           "G\x00\x05",
		"too long a key":         "G\x11" + strings.Repeat("k", api.MaxKey+1) + "\x05",
		"too great a Time":       "G\x01d\x80\x80\x80\x80\x80\x20",
		"no Time":                "G\x01d",
		"bytes behind":           "G\x01d\x01\x00",
		"a Time in another form": "G\x01d\x81\x00",
		"nothing":                "",
		"a row":                  string(rowBodies(row("d", "", 1))[0]),
		"the first frame's":      string(first(p, 2)),
	} {
		corrupt(t, what, "delta-2", pairFile(p, append(goneBodies(a), []byte(body))...))
	}
	fine(t, "by its bytes", "delta-2", pairFile(p, append(goneBodies(a), []byte("G\x01d\x01"))...), ay, row("b", "y", 9), cz)
}

// What a newer pair takes away an even newer one may not, and may not put in what is there; what is gone may come again.
func TestLoadOfThree(t *testing.T) { // P12.4
	p := api.Pair{Number: 3, From: 12, To: 20}
	with := func(g []api.Gone, r []api.Row) *disk.Disk {
		has := two()
		has["manifest"] = manifestFile(manifest(2, 9, 12, 20))
		has["delta-3"], has["data-3"] = deltaFile(p, g...), dataFile(p, r...)
		return files(has)
	}
	m := manifest(2, 9, 12, 20)
	ay, cz, d := row("a", "y", 10), row("c", "z", 12), row("d", "", 1)
	loads(t, "nothing", with(nil, nil), m, ay, cz, d)
	loads(t, "b again", with(nil, rows(row("b", "n", 13))), m, ay, row("b", "n", 13), cz, d)
	loads(t, "the oldest", with(gones(gone("d", 1)), nil), m, ay, cz)
	loads(t, "the newer", with(gones(gone("a", 10)), rows(row("a", "n", 20))), m, row("a", "n", 20), cz, d)
	refusesLoad(t, "what was gone", with(gones(gone("b", 9)), nil), api.ErrCkptCorrupt)
	refusesLoad(t, "the elder of a", with(gones(gone("a", 5)), nil), api.ErrCkptCorrupt)
	refusesLoad(t, "a once more", with(nil, rows(row("a", "n", 13))), api.ErrCkptCorrupt)
}

// cleaned is a disk with empty files of these names.
func cleaned(names ...string) *disk.Disk {
	has := map[string][]byte{}
	for _, name := range names {
		has[name] = nil
	}
	return files(has)
}

func TestCleanFirstError(t *testing.T) { // P12.5
	cleans(t, "nil", nil, manifest(1), false, api.ErrNil)
	cleans(t, "nil and wrong", nil, api.Manifest{}, false, api.ErrNil)
	for what, m := range wrongManifests() {
		d := cleaned("data-9", "manifest.new")
		want := shown(d)
		cleans(t, what, d, m, false, api.ErrCkptForm)
		cleans(t, what+", without power", off(d), m, false, api.ErrCkptForm)
		if !reflect.DeepEqual(want, shown(d)) {
			t.Errorf("%s: Clean has changed the disk", what)
		}
	}
	cleans(t, "without power", off(cleaned("data-9")), manifest(1), false, api.ErrDiskOff)
	cleans(t, "without power, with nothing to do", off(cleaned("data-1")), manifest(1, 9), false, api.ErrDiskOff)
	cleans(t, "without power or files", off(disk.New()), manifest(1), false, api.ErrDiskOff)
	cleans(t, "no files", disk.New(), manifest(1), true, api.OK)
}

func TestCleanOrder(t *testing.T) { // P12.5
	m := numbered(3, lastNumber, 20)
	stay := []string{
		// m's own
		"data-3", "delta-3", "data-20", "delta-20", "data-2147483647", "delta-2147483647",
		// no number of a pair
		"data-0", "data-00", "data-01", "data-007", "data--1", "data--0", "data-", "data", "data-1.", "data-1a", "data-a1", "data-1e1", "data-0x1", "data-1-1",
		"data-2147483648", "data-4294967297", "data-9999999999", "data-99999999999",
		"delta-0", "delta-01", "delta--2", "delta-", "delta", "delta-2147483648", "delta-4294967297", "delta-9999999999", "delta-1.5", "delta--",
		// other words
		"Data-1", "dataa-1", "xdata-1", "data.1", "data1", "dat-1", "deltadata-1", "1", "-1", "log-1", "pair-1",
		"manifest", "manifest.ne", "manifest.new1", "manifest-new", "Manifest.new", "new",
	}
	if len(stay) > 56 {
		t.Fatal(len(stay))
	}
	goes := []string{"data-1", "data-10", "data-2", "data-2147483646", "delta-1", "delta-30", "delta-4", "manifest.new"}
	d := cleaned(append(slices.Clone(stay), goes...)...)
	for i := range goes {
		want := d.Names()
		want = slices.DeleteFunc(want, func(name string) bool { return name == goes[i] })
		shadow := copied(d)
		shadow.Delete(goes[i])
		left := copied(d)
		cleans(t, goes[i], left, m, i == len(goes)-1, api.OK)
		if !slices.Equal(left.Names(), want) || left.Ops() != 1 {
			t.Fatalf("%s: %v, %d, not %v", goes[i], left.Names(), left.Ops(), want)
		}
		sameDisks(t, goes[i], left, shadow)
		d = left
	}
	before := shown(d)
	for range 3 {
		cleans(t, "none left", d, m, true, api.OK)
	}
	if !reflect.DeepEqual(before, shown(d)) {
		t.Error("Clean of nothing has changed the disk")
	}
	slices.Sort(stay)
	if !slices.Equal(d.Names(), stay) {
		t.Errorf("%v, not %v", d.Names(), stay)
	}
}

// Each name by itself, with a manifest that names it, and with one that does not.
func TestCleanOfOne(t *testing.T) { // P12.5
	for _, n := range []int{1, 2, 9, 10, 99, 1 << 30, lastNumber} {
		for _, name := range []string{ckpt.DataName(n), ckpt.DeltaName(n)} {
			other := n%3 + 4 // none of them
			d := cleaned(name)
			cleans(t, name, d, numbered(other), true, api.OK)
			if len(d.Names()) != 0 || d.Ops() != 1 {
				t.Errorf("%s is there", name)
			}
			d = cleaned(name)
			cleans(t, name, d, numbered(other, n), true, api.OK)
			if len(d.Names()) != 1 || d.Ops() != 0 {
				t.Errorf("%s is not there", name)
			}
		}
	}
	for _, name := range []string{"data-0", "delta-00", "manifest", "data-2147483648", "delta--1", "log-3"} {
		d := cleaned(name)
		cleans(t, name, d, manifest(1), true, api.OK)
		if len(d.Names()) != 1 || d.Ops() != 0 {
			t.Errorf("%s is not there", name)
		}
	}
}

func TestCleanErrors(t *testing.T) { // P12.5
	d := cleaned("data-2", "data-1", "delta-7")
	d.CutAt(1)
	cleans(t, "the first", d, manifest(1), false, api.OK)
	before := shown(d)
	cleans(t, "the power goes", d, manifest(1), false, api.ErrDiskOff)
	cleans(t, "the power is gone", d, manifest(1), false, api.ErrDiskOff)
	if !reflect.DeepEqual(before, shown(d)) {
		t.Error("Clean without power has changed the disk")
	}
	d.CutAt(-1)
	cleans(t, "the second", d, manifest(1), false, api.OK)
	cleans(t, "the third", d, manifest(1), true, api.OK)

	// The power goes at an operation: where nothing is to be done, there is none.
	d = cleaned("data-1")
	d.CutAt(0)
	cleans(t, "nothing to do", d, manifest(1, 5), true, api.OK)
	cleans(t, "nothing to do", d, manifest(1, 5), true, api.OK)
	cleans(t, "something to do", d, manifest(1), false, api.ErrDiskOff)
	cleans(t, "nothing to do, and the power is gone", d, manifest(1, 5), false, api.ErrDiskOff)

	d = worn(map[string][]byte{"data-1": nil, "data-2": nil, "data-3": nil}, 1)
	cleans(t, "the last operation", d, manifest(1), false, api.OK)
	for range 2 {
		cleans(t, "worn", d, manifest(1), false, api.ErrDiskFull)
	}
	if !slices.Equal(d.Names(), []string{"data-2", "data-3"}) {
		t.Error(d.Names())
	}
	cleans(t, "worn, with nothing to do", d, manifest(1, 1, 2, 3), true, api.OK)
}

// spare is a list with room behind it, all of which tells whether somebody wrote there.
func spare[T any](list []T, mark T) []T {
	out := make([]T, len(list), len(list)+4)
	copy(out, list)
	for i := len(list); i < cap(out); i++ {
		out[:cap(out)][i] = mark
	}
	return out
}

func untouched[T comparable](t *testing.T, what string, list, want []T, mark T) {
	t.Helper()
	if !slices.Equal(list, want) {
		t.Errorf("%s: %s, not %s", what, told(list), told(want))
	}
	for _, x := range list[len(list):cap(list)] {
		if x != mark {
			t.Errorf("%s: its spare room has %s", what, told(x))
		}
	}
}

// What is handed in is left as it was, and whoever changes it later changes nothing of a writer's.
func TestMemory(t *testing.T) { // R3
	p, r, g := api.Pair{Number: 77}, row("spare", "room", 77), gone("spare", 77)
	d := files(some())
	m := manifest(2, 9)
	m.Pairs = spare(m.Pairs, p)
	newRows := spare(rows(row("a", "y", 10), row("c", strings.Repeat("z", api.MaxValue), 12)), r)
	newGone := spare(gones(gone("a", 5), gone("b", 9)), g)
	w := writes(t, "", d, m, 12, 3, newRows, newGone)
	untouched(t, "pairs", m.Pairs, manifest(2, 9).Pairs, p)
	untouched(t, "rows", newRows, rows(row("a", "y", 10), row("c", strings.Repeat("z", api.MaxValue), 12)), r)
	untouched(t, "gone", newGone, gones(gone("a", 5), gone("b", 9)), g)
	m.Pairs[0], newRows[0], newGone[0] = p, r, g
	m.Pairs = append(m.Pairs, p)
	if got := w.Manifest(); !sameManifests(got, manifest(3, 9, 12)) {
		t.Errorf("Manifest: %s", told(got))
	}
	one, other := w.Manifest(), w.Manifest()
	one.Pairs[0] = p
	_ = append(one.Pairs, p)
	if !sameManifests(other, manifest(3, 9, 12)) {
		t.Error("two manifests share memory")
	}
	all(t, w)
	loads(t, "behind it", d, manifest(3, 9, 12), someRowsBehind()...)

	got, list, _ := ckpt.Load(d)
	got.Pairs[0], list[0] = p, r
	_, _ = append(got.Pairs[:1], p), append(list[:1], r)
	loads(t, "again", d, manifest(3, 9, 12), someRowsBehind()...)

	m = manifest(3, 9, 12)
	m.Pairs = spare(m.Pairs, p)
	d.Append("data-4", nil)
	cleans(t, "", d, m, true, api.OK)
	untouched(t, "Clean's pairs", m.Pairs, manifest(3, 9, 12).Pairs, p)
}

// Writers of one disk and one manifest do not know of one another: the one that is done last counts.
func TestTwoWriters(t *testing.T) { // R4
	d := files(some())
	one := writes(t, "one", d, manifest(2, 9), 10, 2, rows(row("n", "1", 10)), nil)
	other := writes(t, "other", d, manifest(2, 9), 11, 3, rows(row("n", "2", 11)), nil)
	all(t, one)
	loads(t, "one", d, manifest(2, 9, 10), append(slices.Clone(someRows), row("n", "1", 10))...)
	if n := all(t, other); n != 11 {
		t.Errorf("%d steps: data-2 and delta-2 are there", n)
	}
	loads(t, "other", d, manifest(3, 9, 11), append(slices.Clone(someRows), row("n", "2", 11))...)
	step(t, "one again", one, true)
	loads(t, "one again", d, manifest(3, 9, 11), append(slices.Clone(someRows), row("n", "2", 11))...)
}
