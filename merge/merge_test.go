package merge_test

import (
	"fmt"
	"math"
	"reflect"
	"slices"
	"strings"
	"testing"

	"varve/api"
	"varve/ckpt"
	"varve/disk"
	"varve/frame"
	"varve/merge"
	"varve/num"
	"varve/record"
)

const (
	lots       = 1 << 20 // more than any file here has bytes, or any directory operations
	lastTime   = 1<<40 - 1
	lastNumber = 1<<31 - 1
)

func told(x any) string {
	s := fmt.Sprintf("%#v", x)
	return s[:min(len(s), 400)]
}

func row(key, val string, at int64) api.Row { return api.Row{Key: key, Val: val, Time: at} }

func gone(key string, at int64) api.Gone { return api.Gone{Key: key, Time: at} }

func rows(list ...api.Row) []api.Row { return list }

func gones(list ...api.Gone) []api.Gone { return list }

// manifest is one with pairs 1, 2, .. that end at these Times.
func manifest(log int, ends ...int64) api.Manifest {
	m := api.Manifest{Log: log}
	for i, to := range ends {
		m.Pairs = append(m.Pairs, api.Pair{Number: i + 1, From: m.Time, To: to})
		m.Time = to
	}
	return m
}

// numbered is a manifest whose pairs have these numbers, and end at 10, 20, ..
func numbered(numbers ...int) api.Manifest {
	m := api.Manifest{Log: 1}
	for _, n := range numbers {
		m.Pairs = append(m.Pairs, api.Pair{Number: n, From: m.Time, To: m.Time + 10})
		m.Time += 10
	}
	return m
}

// merged is the manifest with one pair, of this number, in the place of the two at a place.
func merged(m api.Manifest, at, number int) api.Manifest {
	out := api.Manifest{Time: m.Time, Log: m.Log}
	for i, p := range m.Pairs {
		switch i {
		case at:
			out.Pairs = append(out.Pairs, api.Pair{Number: number, From: p.From, To: m.Pairs[i+1].To})
		case at + 1:
		default:
			out.Pairs = append(out.Pairs, p)
		}
	}
	return out
}

func sameManifests(a, b api.Manifest) bool {
	return a.Time == b.Time && a.Log == b.Log && slices.Equal(a.Pairs, b.Pairs)
}

func must(b []byte, e api.Errno) []byte {
	if e != api.OK {
		panic(e)
	}
	return b
}

// frames are the bodies' frames, one behind the other, numbered from seq on.
func frames(seq uint64, bodies ...[]byte) []byte {
	var b []byte
	for i, x := range bodies {
		b = append(b, must(frame.Put(nil, seq+uint64(i), x))...)
	}
	return b
}

func first(p api.Pair, n int) []byte {
	b := []byte("P")
	for _, x := range []int64{int64(p.Number), p.From, p.To, int64(n)} {
		b = num.Put(b, uint64(x))
	}
	return b
}

// pairFile is a file of a pair, with these bodies behind its first one.
func pairFile(p api.Pair, bodies ...[]byte) []byte {
	return frames(0, append([][]byte{first(p, len(bodies))}, bodies...)...)
}

func dataFile(p api.Pair, list ...api.Row) []byte {
	var bodies [][]byte
	for _, r := range list {
		bodies = append(bodies, must(record.PutRow(r)))
	}
	return pairFile(p, bodies...)
}

func deltaFile(p api.Pair, list ...api.Gone) []byte {
	var bodies [][]byte
	for _, g := range list {
		bodies = append(bodies, must(record.PutGone(g)))
	}
	return pairFile(p, bodies...)
}

func manifestFile(m api.Manifest) []byte { return frames(0, must(record.PutManifest(m))) }

// content is what the files of a pair have.
type content struct {
	rows []api.Row
	gone []api.Gone
}

// filesOf are the files of a manifest, whose pairs have these contents.
func filesOf(m api.Manifest, contents ...content) map[string][]byte {
	out := map[string][]byte{"manifest": manifestFile(m)}
	for i, c := range contents {
		p := m.Pairs[i]
		out[ckpt.DataName(p.Number)] = dataFile(p, c.rows...)
		out[ckpt.DeltaName(p.Number)] = deltaFile(p, c.gone...)
	}
	return out
}

// files is a disk with these files' bytes, all of it synced.
func files(has map[string][]byte) *disk.Disk {
	d := disk.New()
	for name, b := range has {
		if e := d.Append(name, b); e != api.OK {
			panic(fmt.Sprint(name, e))
		}
	}
	return copied(d)
}

// copied is a disk with the same files, all of it synced.
func copied(d *disk.Disk) *disk.Disk { return d.Crash(api.Fate{Keep: lots, Dirs: lots}) }

// off lets the power of a disk be gone.
func off(d *disk.Disk) *disk.Disk {
	d.CutAt(0)
	d.SyncDir()
	return d
}

// shown is all that can be told of a disk without a change: its files, and what crashes leave of them.
func shown(d *disk.Disk) map[string]string {
	if d == nil {
		return nil
	}
	out := map[string]string{"ops": fmt.Sprint(d.Ops()), "now": fmt.Sprint(d.Names())}
	for dirs := range 8 {
		for _, keep := range []int{0, lots} {
			left := d.Crash(api.Fate{Keep: keep, Dirs: dirs})
			for _, name := range left.Names() {
				b, _ := left.Read(name)
				out[fmt.Sprint(dirs, keep, name)] = string(b)
			}
		}
	}
	return out
}

// sameDisks: the same files, and as much of them is synced.
func sameDisks(t *testing.T, what string, got, want *disk.Disk) {
	t.Helper()
	a, b := shown(got), shown(want)
	if reflect.DeepEqual(a, b) {
		return
	}
	for k := range b {
		if a[k] != b[k] {
			t.Fatalf("%s: the disk's %s: %q, not %q", what, k, a[k], b[k])
		}
	}
	t.Fatalf("%s: the disk has %v, not %v", what, got.Names(), want.Names())
}

// begins: Begin answers a merger that makes this manifest, and the disk and the manifest are as they were.
func begins(t *testing.T, what string, d *disk.Disk, m api.Manifest, at int, want api.Manifest) *merge.Merger {
	t.Helper()
	before, was := shown(d), slices.Clone(m.Pairs)
	w, e := merge.Begin(d, m, at)
	if w == nil || e != api.OK {
		t.Fatalf("%s: Begin(%s, %d): %v", what, told(m), at, e)
	}
	if got := w.Manifest(); !sameManifests(got, want) {
		t.Fatalf("%s: Begin(%s, %d) makes %s, not %s", what, told(m), at, told(got), told(want))
	}
	if !reflect.DeepEqual(before, shown(d)) || !slices.Equal(m.Pairs, was) {
		t.Fatalf("%s: Begin has changed the disk or the manifest", what)
	}
	return w
}

// refuses: Begin answers this error, nothing beside it, and the disk and the manifest are as they were.
func refuses(t *testing.T, what string, d *disk.Disk, m api.Manifest, at int, want api.Errno) {
	t.Helper()
	before, was := shown(d), slices.Clone(m.Pairs)
	w, e := merge.Begin(d, m, at)
	if w != nil || e != want {
		t.Fatalf("%s: Begin(%s, %d): %v, %v, not %v", what, told(m), at, w, e, want)
	}
	if !reflect.DeepEqual(before, shown(d)) || !slices.Equal(m.Pairs, was) {
		t.Fatalf("%s: Begin has answered %v, and changed the disk or the manifest", what, e)
	}
}

func step(t *testing.T, what string, w *merge.Merger, want bool) {
	t.Helper()
	if done, e := w.Step(); done != want || e != api.OK {
		t.Fatalf("%s: Step: %v, %v, not %v", what, done, e, want)
	}
}

// stepper is who goes on by steps: a merger, or a writer of a checkpoint.
type stepper interface {
	Step() (bool, api.Errno)
}

// all does all steps: how many.
func all(t *testing.T, w stepper) int {
	t.Helper()
	for n := 1; n < 20; n++ {
		done, e := w.Step()
		if e != api.OK {
			t.Fatal(e)
		}
		if done {
			return n
		}
	}
	t.Fatal("never done")
	return 0
}

// loads: Load tells this manifest and these rows.
func loads(t *testing.T, what string, d *disk.Disk, m api.Manifest, want ...api.Row) {
	t.Helper()
	got, list, e := ckpt.Load(d)
	if e != api.OK || !sameManifests(got, m) || !slices.Equal(list, want) {
		t.Fatalf("%s: Load: %s, %s, %v, not %s, %s", what, told(got), told(list), e, told(m), told(want))
	}
}

// lies: a file of the disk has these bytes.
func lies(t *testing.T, what string, d *disk.Disk, name string, want []byte) {
	t.Helper()
	if b, e := d.Read(name); e != api.OK || string(b) != string(want) {
		t.Fatalf("%s: %s: %x, %v, not %x", what, name, b, e, want)
	}
}

func TestExamples(t *testing.T) {
	got := merge.Rows(rows(row("a", "x", 1), row("b", "y", 2)), rows(row("b", "z", 5)), gones(gone("a", 1)))
	if !slices.Equal(got, rows(row("b", "z", 5))) {
		t.Errorf("Rows: %v", got)
	}
	d := disk.New()
	w, _ := ckpt.Write(d, manifest(1), 9, 1, rows(row("a", "x", 5), row("b", "y", 6)), nil)
	all(t, w)
	w, _ = ckpt.Write(d, manifest(1, 9), 12, 1, rows(row("a", "z", 10)), gones(gone("a", 5)))
	all(t, w)
	m, one := manifest(1, 9, 12), merged(manifest(1, 9, 12), 0, 3)
	all(t, begins(t, "the pairs 1 and 2", d, m, 0, one))
	loads(t, "behind it", d, api.Manifest{Time: 12, Log: 1, Pairs: []api.Pair{{Number: 3, From: 0, To: 12}}}, row("a", "z", 10), row("b", "y", 6))
	refuses(t, "the last pair", d, m, 1, api.ErrMergeNone)
	refuses(t, "ahead of the first", d, m, -1, api.ErrMergeNone)
	for _, at := range []int{-1, 0, 1} {
		refuses(t, "a manifest without pairs", d, manifest(1), at, api.ErrMergeNone)
	}
}

func TestRows(t *testing.T) { // P14.1
	a, b, c := row("a", "1", 1), row("b", "2", 2), row("c", "3", 3)
	for _, x := range []struct {
		what string
		a, b []api.Row
		gone []api.Gone
		want []api.Row
	}{
		{"nothing", nil, nil, nil, nil},
		{"nothing, empty", []api.Row{}, []api.Row{}, []api.Gone{}, nil},
		{"nothing, and what is gone", nil, nil, gones(gone("a", 1)), nil},
		{"a alone", rows(a, b), nil, nil, rows(a, b)},
		{"b alone", nil, rows(a, b), nil, rows(a, b)},
		{"b alone, with an empty a", []api.Row{}, rows(c), []api.Gone{}, rows(c)},
		{"one ahead of the other", rows(a), rows(b, c), nil, rows(a, b, c)},
		{"one behind the other", rows(b, c), rows(a), nil, rows(a, b, c)},
		{"one between the others", rows(a, c), rows(b), nil, rows(a, b, c)},

		{"a not sorted", rows(c, a, b), nil, nil, rows(a, b, c)},
		{"b not sorted", nil, rows(c, a, b), nil, rows(a, b, c)},
		{"neither sorted", rows(c, a), rows(row("d", "", 4), b), nil, rows(a, b, c, row("d", "", 4))},
		{"gone not sorted", rows(a, b, c), nil, gones(gone("c", 3), gone("a", 1)), rows(b)},
		{"bytewise", rows(row("\xff", "", 1), row("a", "", 2), row("Z", "", 3)), rows(row("a\x00", "", 4), row("\x00", "", 5), row("é", "", 6)), nil,
			rows(row("\x00", "", 5), row("Z", "", 3), row("a", "", 2), row("a\x00", "", 4), row("é", "", 6), row("\xff", "", 1))},

		{"a key in both", rows(a), rows(row("a", "n", 9)), nil, rows(row("a", "n", 9))},
		{"a key in both, b's is the elder", rows(row("a", "n", 9)), rows(a), nil, rows(a)},
		{"a key in both, at one Time", rows(row("a", "n", 1)), rows(a), nil, rows(a)},
		{"a key in both, among others", rows(a, b, c), rows(row("b", "n", 9)), nil, rows(a, row("b", "n", 9), c)},
		{"a key several times in a", rows(row("b", "1st", 5), row("b", "2nd", 1), row("b", "3rd", 9)), nil, nil, rows(row("b", "1st", 5))},
		{"a key several times in a, apart", rows(row("b", "1st", 5), a, row("b", "2nd", 6), c, row("b", "3rd", 4)), nil, nil, rows(a, row("b", "1st", 5), c)},
		{"a key several times in b", rows(a), rows(row("b", "1st", 5), row("b", "2nd", 1), c, row("b", "3rd", 9)), nil, rows(a, row("b", "1st", 5), c)},
		{"a key several times in both", rows(row("b", "a1", 1), row("b", "a2", 2)), rows(row("b", "b1", 9), row("b", "b2", 8)), nil, rows(row("b", "b1", 9))},
		{"the same row several times", rows(a, a, a), rows(b, b), nil, rows(a, b)},

		{"gone by key and Time", rows(a, b), nil, gones(gone("a", 1)), rows(b)},
		{"gone by the key alone", rows(a, b), nil, gones(gone("a", 2), gone("a", 0), gone("a", -1)), rows(a, b)},
		{"gone by the Time alone", rows(a, b), nil, gones(gone("c", 1), gone("", 1), gone("aa", 2)), rows(a, b)},
		{"gone by another one's Time", rows(a, b), nil, gones(gone("a", 2), gone("b", 1)), rows(a, b)},
		{"gone and no row", rows(a, b), nil, gones(gone("x", 7)), rows(a, b)},
		{"gone twice", rows(a, b), nil, gones(gone("a", 1), gone("a", 1)), rows(b)},
		{"all gone", rows(a, b, c), nil, gones(gone("a", 1), gone("b", 2), gone("c", 3)), nil},
		{"gone whatever the value", rows(row("a", "another", 1)), nil, gones(gone("a", 1)), nil},
		{"gone several times in a", rows(a, row("a", "again", 1), b), nil, gones(gone("a", 1)), rows(b)},
		{"b's own is not gone", nil, rows(a, b), gones(gone("a", 1), gone("b", 2)), rows(a, b)},
		{"b's own is not gone, a's is", rows(a), rows(row("a", "n", 1)), gones(gone("a", 1)), rows(row("a", "n", 1))},
		{"a key in both, a's is gone", rows(a, b), rows(row("a", "n", 9)), gones(gone("a", 1)), rows(row("a", "n", 9), b)},
		{"a key in both, b's is named", rows(a, b), rows(row("a", "n", 9)), gones(gone("a", 9)), rows(row("a", "n", 9), b)},

		{"the first of several is gone", rows(row("b", "1st", 5), row("b", "2nd", 6), row("b", "3rd", 7)), nil, gones(gone("b", 5)), rows(row("b", "2nd", 6))},
		{"the second of several is gone", rows(row("b", "1st", 5), row("b", "2nd", 6), row("b", "3rd", 7)), nil, gones(gone("b", 6)), rows(row("b", "1st", 5))},
		{"the first two of several are gone", rows(row("b", "1st", 5), row("b", "2nd", 6), row("b", "3rd", 7)), nil, gones(gone("b", 6), gone("b", 5)), rows(row("b", "3rd", 7))},
		{"all but the last, which is the elder", rows(row("b", "1st", 5), row("b", "2nd", 5), row("b", "3rd", 4)), nil, gones(gone("b", 5)), rows(row("b", "3rd", 4))},
		{"the first of several is gone, and b has the key", rows(row("b", "1st", 5), row("b", "2nd", 6)), rows(row("b", "n", 1)), gones(gone("b", 5)), rows(row("b", "n", 1))},

		{"what may be no row", rows(row("", "empty", -5), row(strings.Repeat("k", 40), "long", math.MaxInt64)), rows(row("b", strings.Repeat("v", 100), math.MinInt64)), gones(gone("", 5), gone("b", math.MinInt64)),
			rows(row("", "empty", -5), row("b", strings.Repeat("v", 100), math.MinInt64), row(strings.Repeat("k", 40), "long", math.MaxInt64))},
		{"what may be no row, gone", rows(row("", "empty", -5), row(strings.Repeat("k", 40), "long", math.MaxInt64)), nil, gones(gone("", -5), gone(strings.Repeat("k", 40), math.MaxInt64)), nil},
	} {
		if got := merge.Rows(x.a, x.b, x.gone); !slices.Equal(got, x.want) {
			t.Errorf("%s: Rows(%v, %v, %v): %v, not %v", x.what, x.a, x.b, x.gone, got, x.want)
		}
	}
}

// spare is a list with room behind it, all of which tells whether somebody wrote there.
func spare[T any](list []T, mark T) []T {
	out := make([]T, len(list), len(list)+4)
	copy(out, list)
	for i := len(list); i < cap(out); i++ {
		out[:cap(out)][i] = mark
	}
	return out
}

func untouched[T comparable](t *testing.T, what string, list, want []T, mark T) {
	t.Helper()
	if !slices.Equal(list, want) {
		t.Errorf("%s: %s, not %s", what, told(list), told(want))
	}
	for _, x := range list[len(list):cap(list)] {
		if x != mark {
			t.Errorf("%s: its spare room has %s", what, told(x))
		}
	}
}

// What Rows is handed is left as it was, and what it answers is new memory, spare room too.
func TestRowsMemory(t *testing.T) { // R3
	mark, goneMark := row("spare", "room", 77), gone("spare", 77)
	three, two := rows(row("a", "1", 1), row("b", "2", 2), row("c", "3", 3)), rows(row("b", "n", 9), row("d", "4", 4))
	for _, x := range []struct {
		a, b []api.Row
		gone []api.Gone
	}{
		{three, nil, nil},
		{nil, three, nil},
		{three, two, nil},
		{three, two, gones(gone("c", 3), gone("a", 1))},
		{rows(three[2], three[0], three[1]), rows(two[1], two[0]), gones(gone("c", 3), gone("a", 1))},
		{rows(three[0], three[0], row("a", "5", 5)), rows(two[0], row("b", "6", 6)), gones(gone("a", 1))},
	} {
		a, b, g := spare(x.a, mark), spare(x.b, mark), spare(x.gone, goneMark)
		got := merge.Rows(a, b, g)
		want := slices.Clone(got)
		untouched(t, "a", a, x.a, mark)
		untouched(t, "b", b, x.b, mark)
		untouched(t, "gone", g, x.gone, goneMark)
		again := merge.Rows(a, b, g)
		for i := range again[:cap(again)] {
			again[:cap(again)][i] = row("the caller's", "", 0)
		}
		untouched(t, "a, behind", a, x.a, mark)
		untouched(t, "b, behind", b, x.b, mark)
		for i := range a {
			a[i] = row("another", "", 0)
		}
		for i := range b {
			b[i] = row("another", "", 0)
		}
		if !slices.Equal(got, want) {
			t.Errorf("Rows(%v, %v, %v) shares memory with what it was handed, or answered", x.a, x.b, x.gone)
		}
	}
}

// some is a manifest of four pairs, each with rows of its own, with some that newer ones name, and names of its own.
func some() (api.Manifest, []content) {
	return manifest(7, 9, 12, 20, 30), []content{
		{rows(row("a", "a1", 5), row("b", "b1", 6), row("c", "c1", 9), row("d", "d1", 1), row("e", "e1", 2)), nil},
		{rows(row("b", "b2", 10), row("f", strings.Repeat("f", api.MaxValue), 12), row("g", "g2", 11)), gones(gone("a", 5), gone("b", 6))},
		{rows(row("a", "a3", 13), row("f", "f3", 20), row("h", "", 14)), gones(gone("c", 9), gone("f", 12))},
		{rows(row("b", "b4", 21), row("c", "c4", 30)), gones(gone("b", 10), gone("d", 1), gone("h", 14))},
	}
}

var someRows = rows(row("a", "a3", 13), row("b", "b4", 21), row("c", "c4", 30), row("e", "e1", 2), row("f", "f3", 20), row("g", "g2", 11))

func someFiles() map[string][]byte {
	m, contents := some()
	return filesOf(m, contents...)
}

// someOnes is what some has as one, of the pairs at each place and behind it.
func someOnes() []content {
	long := row("f", strings.Repeat("f", api.MaxValue), 12)
	return []content{
		{rows(row("b", "b2", 10), row("c", "c1", 9), row("d", "d1", 1), row("e", "e1", 2), long, row("g", "g2", 11)), nil},
		{rows(row("a", "a3", 13), row("b", "b2", 10), row("f", "f3", 20), row("g", "g2", 11), row("h", "", 14)), gones(gone("a", 5), gone("b", 6), gone("c", 9))},
		{rows(row("a", "a3", 13), row("b", "b4", 21), row("c", "c4", 30), row("f", "f3", 20)), gones(gone("b", 10), gone("c", 9), gone("d", 1), gone("f", 12))},
	}
}

func TestSome(t *testing.T) {
	m, _ := some()
	loads(t, "some", files(someFiles()), m, someRows...)
}

// The new files, and the manifest, are those of the two as one, byte by byte; all others stay.
func TestTwoAsOne(t *testing.T) { // P14.2, P14.3, Words
	m, _ := some()
	for at, c := range someOnes() {
		what := fmt.Sprint("the pairs at ", at)
		d, has := files(someFiles()), someFiles()
		want := merged(m, at, 5)
		all(t, begins(t, what, d, m, at, want))
		p := want.Pairs[at]
		lies(t, what, d, "data-5", dataFile(p, c.rows...))
		lies(t, what, d, "delta-5", deltaFile(p, c.gone...))
		lies(t, what, d, "manifest", manifestFile(want))
		for _, name := range []string{"data-1", "delta-1", "data-2", "delta-2", "data-3", "delta-3", "data-4", "delta-4"} {
			lies(t, what, d, name, has[name])
		}
		if n := len(d.Names()); n != 11 {
			t.Errorf("%s: %v", what, d.Names())
		}
		loads(t, what, d, want, someRows...)
		loads(t, what+", behind a crash", d.Crash(api.Fate{}), want, someRows...)
	}
}

// The bytes of all files, one by one.
func TestBytes(t *testing.T) { // Words
	m := api.Manifest{Time: 400, Log: 2, Pairs: []api.Pair{{Number: 9, From: 0, To: 4}, {Number: 3, From: 4, To: 300}, {Number: 1, From: 300, To: 400}}}
	d := files(filesOf(m,
		content{rows(row("j", "", 1), row("l", "", 4)), nil},
		content{rows(row("k", "v", 5)), gones(gone("l", 4))},
		content{nil, gones(gone("j", 1), gone("k", 5))}))
	all(t, begins(t, "the last two", d, m, 1, merged(m, 1, 10)))
	block := func(seq uint64, body string) string {
		return string(must(frame.Put(nil, seq, []byte(body))))
	}
	for name, want := range map[string]string{
		"data-10":  block(0, "P\x0a\x04\x90\x03\x00"),
		"delta-10": block(0, "P\x0a\x04\x90\x03\x02") + block(1, "G\x01j\x01") + block(2, "G\x01l\x04"),
		"manifest": block(0, "M\x90\x03\x02\x02\x09\x00\x04\x0a\x04\x90\x03"),
	} {
		lies(t, "the last two", d, name, []byte(want))
	}
	loads(t, "the last two", d, merged(m, 1, 10))
	d = files(filesOf(m, content{rows(row("j", "", 1), row("l", "", 4)), nil}, content{rows(row("k", "v", 5)), gones(gone("l", 4))}, content{}))
	all(t, begins(t, "the first two", d, m, 0, merged(m, 0, 10)))
	for name, want := range map[string]string{
		"data-10":  block(0, "P\x0a\x00\xac\x02\x02") + block(1, "R\x01j\x00\x01") + block(2, "R\x01k\x01v\x05"),
		"delta-10": block(0, "P\x0a\x00\xac\x02\x00"),
		"manifest": block(0, "M\x90\x03\x02\x02\x0a\x00\xac\x02\x01\xac\x02\x90\x03"),
	} {
		lies(t, "the first two", d, name, []byte(want))
	}
}

// The new pair's Number is 1 more than the greatest of all of the manifest's, wherever it stands.
func TestNumbers(t *testing.T) { // P14.2
	for _, c := range []struct {
		numbers []int
		want    int // 0: refused
	}{
		{[]int{1, 2}, 3},
		{[]int{2, 1}, 3},
		{[]int{7, 3, 5}, 8},
		{[]int{3, 7, 5}, 8},
		{[]int{3, 5, 7}, 8},
		{[]int{5, 1, 2, 40}, 41},
		{[]int{lastNumber - 1, 4, 6}, lastNumber},
		{[]int{4, 6, lastNumber - 1}, lastNumber},
		{[]int{lastNumber, 4, 6}, 0},
		{[]int{4, lastNumber, 6}, 0},
		{[]int{4, 6, lastNumber}, 0},
		{[]int{4, 6, 9, lastNumber}, 0},
	} {
		m := numbered(c.numbers...)
		var list []content
		for i := range c.numbers {
			list = append(list, content{rows: rows(row(fmt.Sprint(i), "", int64(10*i+5)))})
		}
		_, want, _ := ckpt.Load(files(filesOf(m, list...)))
		for at := range len(c.numbers) - 1 {
			d := files(filesOf(m, list...))
			what := fmt.Sprint(c.numbers, " at ", at)
			if c.want == 0 {
				refuses(t, what, d, m, at, api.ErrCkptForm)
				continue
			}
			all(t, begins(t, what, d, m, at, merged(m, at, c.want)))
			loads(t, what, d, merged(m, at, c.want), want...)
		}
	}
}

// wrongManifests are manifests that are not right (chapter 6), each in one way, but whose first two pairs are there, where they can be.
func wrongManifests() map[string]api.Manifest {
	base := func(change func(m *api.Manifest)) api.Manifest {
		m, _ := some()
		change(&m)
		return m
	}
	seventeen := numbered(1, 2, 3, 4, 5, 6, 7, 8, 9, 10, 11, 12, 13, 14, 15, 16, 17)
	return map[string]api.Manifest{
		"zero":            {},
		"Log 0":           base(func(m *api.Manifest) { m.Log = 0 }),
		"Log below 0":     base(func(m *api.Manifest) { m.Log = -1 }),
		"Log above":       base(func(m *api.Manifest) { m.Log = 1 << 31 }),
		"a later Time":    base(func(m *api.Manifest) { m.Time = 31 }),
		"an earlier Time": base(func(m *api.Manifest) { m.Time = 29 }),
		"Time of none":    {Time: 1, Log: 1},
		"Time below 0":    {Time: -1, Log: 1},
		"Time MaxTime":    base(func(m *api.Manifest) { m.Time, m.Pairs[3].To = api.MaxTime, api.MaxTime }),
		"From above 0":    base(func(m *api.Manifest) { m.Pairs[0].From = 1 }),
		"a gap":           base(func(m *api.Manifest) { m.Pairs[3].From = 21 }),
		"an overlap":      base(func(m *api.Manifest) { m.Pairs[3].From = 19 }),
		"an empty pair":   base(func(m *api.Manifest) { m.Pairs[2].To, m.Pairs[3].From = 12, 12 }),
		"Number 0":        base(func(m *api.Manifest) { m.Pairs[3].Number = 0 }),
		"Number below 0":  base(func(m *api.Manifest) { m.Pairs[2].Number = -1 }),
		"Number above":    base(func(m *api.Manifest) { m.Pairs[3].Number = 1 << 31 }),
		"Number twice":    base(func(m *api.Manifest) { m.Pairs[3].Number = 1 }),
		"seventeen pairs": seventeen,
	}
}

func TestBeginOfManifests(t *testing.T) { // P14.2
	for what, m := range wrongManifests() {
		for _, at := range []int{math.MinInt64, -1, 0, 1, 2, 3, 4, math.MaxInt64} {
			refuses(t, what, files(someFiles()), m, at, api.ErrCkptForm)
			refuses(t, what+", without power", off(files(someFiles())), m, at, api.ErrCkptForm)
			refuses(t, what+", without files", disk.New(), m, at, api.ErrCkptForm)
			refuses(t, what+", without a disk", nil, m, at, api.ErrNil)
		}
	}
	// Sixteen pairs may be merged: they are fifteen then.
	m := numbered(1, 2, 3, 4, 5, 6, 7, 8, 9, 10, 11, 12, 13, 14, 15, 16)
	for at := range 15 {
		d := files(filesOf(m, make([]content, 16)...))
		all(t, begins(t, "sixteen", d, m, at, merged(m, at, 17)))
		loads(t, "sixteen", d, merged(m, at, 17))
	}
}

func TestBeginOfPlaces(t *testing.T) { // P14.2
	m, contents := some()
	for n := range 5 {
		few := manifest(7, []int64{9, 12, 20, 30}[:n]...)
		for _, at := range []int{math.MinInt64, math.MinInt64 + 1, math.MinInt32, -2, -1, 0, 1, 2, 3, 4, 5, 15, 16, math.MaxInt32, math.MaxInt64 - 1, math.MaxInt64} {
			d := files(filesOf(few, contents[:n]...))
			if at >= 0 && at < n-1 {
				begins(t, fmt.Sprint(n, " pairs"), d, few, at, merged(few, at, n+1))
				continue
			}
			refuses(t, fmt.Sprint(n, " pairs"), d, few, at, api.ErrMergeNone)
			refuses(t, fmt.Sprint(n, " pairs, without power"), off(d), few, at, api.ErrMergeNone)
			refuses(t, fmt.Sprint(n, " pairs, without files"), disk.New(), few, at, api.ErrMergeNone)
			refuses(t, fmt.Sprint(n, " pairs, without a disk"), nil, few, at, api.ErrNil)
		}
	}
	refuses(t, "a great Number, at the last pair", files(someFiles()), numbered(1, lastNumber), 1, api.ErrMergeNone)
	refuses(t, "no disk", nil, m, 0, api.ErrNil)
}

func TestBeginWithoutPower(t *testing.T) { // P14.2
	m, _ := some()
	for at := range 3 {
		refuses(t, "with files", off(files(someFiles())), m, at, api.ErrDiskOff)
		refuses(t, "without files", off(disk.New()), m, at, api.ErrDiskOff)
		refuses(t, "a great Number", off(disk.New()), numbered(1, 2, 3, lastNumber), at, api.ErrDiskOff)
		bad := someFiles()
		for name := range bad {
			bad[name] = nil
		}
		refuses(t, "with files that may not be", off(files(bad)), m, at, api.ErrDiskOff)
		// The power goes at an operation, and Begin does none.
		d := files(someFiles())
		d.CutAt(0)
		w := begins(t, "power that is about to go", d, m, at, merged(m, at, 5))
		refuses(t, "without files, power that is about to go", func() *disk.Disk { e := disk.New(); e.CutAt(0); return e }(), m, at, api.ErrCkptCorrupt)
		if done, e := w.Step(); done || e != api.ErrDiskOff {
			t.Errorf("Step at which the power goes: %v, %v", done, e)
		}
		refuses(t, "the power has gone", d, m, at, api.ErrDiskOff)
		d.CutAt(-1)
		begins(t, "the power is there again", d, m, at, merged(m, at, 5))
	}
}

// corrupt: with these bytes in the place of one of some's files, those whose pair it is are refused, and only those.
func corrupt(t *testing.T, what, name string, b []byte) {
	t.Helper()
	m, _ := some()
	has := someFiles()
	if has[name] = b; b == nil {
		delete(has, name)
	}
	d := files(has)
	number := int(name[len(name)-1] - '0')
	for at := range 3 {
		if at == number-1 || at == number-2 {
			refuses(t, name+" "+what, d, m, at, api.ErrCkptCorrupt)
			continue
		}
		begins(t, "not its own: "+name+" "+what, d, m, at, merged(m, at, 5))
	}
	// A Number that is too great is told only behind that.
	m.Pairs[(number+1)%4].Number = lastNumber
	last := copied(d)
	last.Rename(ckpt.DataName((number+1)%4+1), ckpt.DataName(lastNumber))
	last.Rename(ckpt.DeltaName((number+1)%4+1), ckpt.DeltaName(lastNumber))
	refuses(t, name+" "+what+", and a great Number", last, m, min(number-1, 2), api.ErrCkptCorrupt)
}

var pairNames = []string{"data-1", "delta-1", "data-2", "delta-2", "data-3", "delta-3", "data-4", "delta-4"}

// Each file missing, empty, torn, longer, another one's.
func TestBeginOfFiles(t *testing.T) { // P14.2
	right := someFiles()
	for _, name := range pairNames {
		corrupt(t, "missing", name, nil)
		corrupt(t, "empty", name, []byte{})
		for _, n := range []int{1, 31, 32, 33, 63, 64, len(right[name]) - 32, len(right[name]) - 1} {
			if n > 0 && n < len(right[name]) {
				corrupt(t, fmt.Sprint("cut at ", n), name, right[name][:n])
			}
		}
		for _, n := range []int{1, 9, 31, 32, 40, len(right[name])} {
			torn := slices.Clone(right[name])
			for i := len(torn) - min(n, len(torn)); i < len(torn); i++ {
				torn[i] ^= 255
			}
			corrupt(t, fmt.Sprint("torn by ", n), name, torn)
		}
		for _, more := range []string{"\x00", "x", strings.Repeat("\x00", 32), strings.Repeat("\xff", 33)} {
			corrupt(t, fmt.Sprint("longer by ", len(more)), name, append(slices.Clone(right[name]), more...))
		}
		corrupt(t, "doubled", name, append(slices.Clone(right[name]), right[name]...))
		for _, other := range []string{"data-1", "delta-2", "data-3", "delta-4", "manifest"} {
			if other != name {
				corrupt(t, "with the bytes of "+other, name, right[other])
			}
		}
	}
}

// Neither the file manifest nor those of other pairs are looked at.
func TestBeginOfOtherFiles(t *testing.T) { // P14.2
	m, _ := some()
	for at := range 3 {
		has := map[string][]byte{"data-9": []byte("x"), "manifest.new": nil}
		for _, n := range []int{at + 1, at + 2} {
			has[ckpt.DataName(n)], has[ckpt.DeltaName(n)] = someFiles()[ckpt.DataName(n)], someFiles()[ckpt.DeltaName(n)]
		}
		begins(t, "no manifest, and the two alone", files(has), m, at, merged(m, at, 5))
		has["manifest"] = []byte("none")
		begins(t, "no right manifest", files(has), m, at, merged(m, at, 5))
		has["manifest"] = manifestFile(manifest(3, 5))
		begins(t, "another manifest", files(has), m, at, merged(m, at, 5))
	}
}

// Each byte of each file by another one.
func TestBeginOfBytes(t *testing.T) { // P14.2
	m, _ := some()
	d := files(someFiles())
	for i, name := range pairNames {
		b, _ := d.Read(name)
		for place, was := range b {
			for _, x := range []byte{1, 2, 128, 255, was, was ^ 0xa1, was ^ 'x'} {
				d.Poke(name, place, was^x)
				for at := max(0, i/2-1); at <= min(2, i/2); at++ {
					w, e := merge.Begin(d, m, at)
					if x == 0 && (w == nil || e != api.OK) || x != 0 && (w != nil || e != api.ErrCkptCorrupt) {
						t.Fatalf("%s at %d by %x: %v", name, place, was^x, e)
					}
				}
			}
			d.Poke(name, place, was)
		}
	}
	begins(t, "as it was", d, m, 1, merged(m, 1, 5))
}

// Files of other rows than the chapter lets them have.
func TestBeginOfRows(t *testing.T) { // P14.2; chapter 12, Words
	long := strings.Repeat("k", api.MaxKey+1)
	for n := range 4 {
		m, _ := some()
		p := m.Pairs[n]
		data, delta := ckpt.DataName(p.Number), ckpt.DeltaName(p.Number)
		for what, list := range map[string][]api.Row{
			"at From":              {row("x", "", p.From)},
			"above To":             {row("x", "", p.To+1)},
			"the last at From":     {row("x", "", p.To), row("y", "", p.From)},
			"falling":              {row("y", "", p.To), row("x", "", p.To)},
			"equal":                {row("x", "", p.To), row("x", "", p.To)},
			"falling at the end":   {row("x", "", p.To), row("z", "", p.To), row("y", "", p.To)},
			"equal, another Value": {row("x", "1", p.To), row("x", "2", p.To)},
		} {
			corrupt(t, what, data, dataFile(p, list...))
		}
		for what, list := range map[string][]api.Gone{
			"above From":         {gone("x", p.From+1)},
			"at To":              {gone("x", p.To)},
			"above To":           {gone("x", p.To+1)},
			"falling":            {gone("y", 0), gone("x", 0)},
			"equal":              {gone("x", 0), gone("x", 0)},
			"the last above":     {gone("x", 0), gone("y", p.From+1)},
			"falling at the end": {gone("x", 0), gone("z", 0), gone("y", 0)},
		} {
			corrupt(t, what, delta, deltaFile(p, list...))
		}
		if p.From > 0 {
			corrupt(t, "one key, falling Times", delta, deltaFile(p, gone("x", 1), gone("x", 0)))
		}
		for what, body := range map[string]string{
			"an empty key":     "R\x00\x01x" + string(num.Put(nil, uint64(p.To))),
			"too long a key":   "R\x11" + long + "\x01x" + string(num.Put(nil, uint64(p.To))),
			"too long a value": "R\x01a\x41" + strings.Repeat("v", api.MaxValue+1) + string(num.Put(nil, uint64(p.To))),
			"no Time":          "R\x01a\x01x",
			"nothing":          "",
			"what is gone":     "G\x01x\x00",
			"a commit":         "C\x0a\x00",
			"bytes behind":     "R\x01a\x01x" + string(num.Put(nil, uint64(p.To))) + "\x00",
		} {
			corrupt(t, what, data, pairFile(p, []byte(body)))
		}
		for what, body := range map[string]string{
			"an empty key":   "G\x00\x00",
			"too long a key": "G\x11" + long + "\x00",
			"no Time":        "G\x01x",
			"nothing":        "",
			"a row":          "R\x01x\x00\x00",
			"bytes behind":   "G\x01x\x00\x00",
		} {
			corrupt(t, what, delta, pairFile(p, []byte(body)))
		}
		for _, name := range []string{data, delta} {
			for what, body := range map[string][]byte{
				"another N":    first(api.Pair{Number: p.Number + 1, From: p.From, To: p.To}, 0),
				"another From": first(api.Pair{Number: p.Number, From: p.From + 1, To: p.To}, 0),
				"another To":   first(api.Pair{Number: p.Number, From: p.From, To: p.To + 1}, 0),
				"more than is": first(p, 1),
				"another byte": append([]byte("Q"), first(p, 0)[1:]...),
				"bytes behind": append(first(p, 0), 0),
				"nothing":      nil,
			} {
				corrupt(t, "says "+what, name, frames(0, body))
			}
			corrupt(t, "numbered from 1 on", name, frames(1, first(p, 0)))
			corrupt(t, "says fewer than are", name, frames(0, first(p, 0), must(record.PutRow(row("x", "", p.To)))))
			corrupt(t, "no first frame", name, frames(0, must(record.PutRow(row("x", "", p.To)))))
		}
	}
}

// three is a disk with three pairs, of which the first one may be named by the others.
func three(a, b content) (*disk.Disk, api.Manifest) {
	m := manifest(1, 9, 20, 30)
	return files(filesOf(m, content{rows(row("o", "old", 9), row("p", "old", 5)), nil}, a, b)), m
}

// Two pairs, from 9 to 20 and from 20 to 30, each of which may be, but not both as one.
func TestBeginOfTwo(t *testing.T) { // P14.2
	a := rows(row("a", "x", 10), row("b", "y", 20))
	for _, c := range []struct {
		what  string
		right bool
		a, b  content
		want  content
	}{
		{"nothing", true, content{}, content{}, content{}},
		{"a alone", true, content{a, nil}, content{}, content{a, nil}},
		{"b alone", true, content{}, content{rows(row("a", "n", 21)), nil}, content{rows(row("a", "n", 21)), nil}},
		{"other keys", true, content{a, nil}, content{rows(row("aa", "n", 21), row("c", "n", 30)), nil}, content{rows(a[0], row("aa", "n", 21), a[1], row("c", "n", 30)), nil}},
		{"a key of both", false, content{a, nil}, content{rows(row("a", "n", 21)), nil}, content{}},
		{"the last key of both", false, content{a, nil}, content{rows(row("aa", "n", 21), row("b", "n", 21)), nil}, content{}},
		{"a key of both, with one value", false, content{a, nil}, content{rows(row("a", "x", 21)), nil}, content{}},
		{"all keys of both, one is named", false, content{a, nil}, content{rows(row("a", "n", 21), row("b", "n", 21)), gones(gone("a", 10))}, content{}},
		{"a key of both, another one is named", false, content{a, nil}, content{rows(row("a", "n", 21)), gones(gone("b", 20))}, content{}},
		{"a key of both, named at an elder Time", false, content{a, nil}, content{rows(row("a", "n", 21)), gones(gone("a", 9))}, content{}},
		{"a key of both, named", true, content{a, nil}, content{rows(row("a", "n", 21)), gones(gone("a", 10))}, content{rows(row("a", "n", 21), a[1]), nil}},
		{"all keys of both, named", true, content{a, nil}, content{rows(row("a", "n", 21), row("b", "n", 30)), gones(gone("a", 10), gone("b", 20))}, content{rows(row("a", "n", 21), row("b", "n", 30)), nil}},
		{"named, and not there again", true, content{a, nil}, content{nil, gones(gone("a", 10))}, content{a[1:], nil}},
		{"all named", true, content{a, nil}, content{nil, gones(gone("a", 10), gone("b", 20))}, content{}},

		{"elder ones named by a", true, content{nil, gones(gone("o", 9), gone("p", 5))}, content{}, content{nil, gones(gone("o", 9), gone("p", 5))}},
		{"elder ones named by b", true, content{}, content{nil, gones(gone("o", 9), gone("p", 5))}, content{nil, gones(gone("o", 9), gone("p", 5))}},
		{"elder ones named by both", true, content{nil, gones(gone("p", 5))}, content{nil, gones(gone("o", 9))}, content{nil, gones(gone("o", 9), gone("p", 5))}},
		{"elder ones and a's", true, content{rows(row("o", "n", 10)), gones(gone("o", 9))}, content{rows(row("o", "nn", 30)), gones(gone("o", 10), gone("p", 5))}, content{rows(row("o", "nn", 30)), gones(gone("o", 9), gone("p", 5))}},
		{"an elder one named by a, a row of a in its place", true, content{rows(row("o", "n", 10)), gones(gone("o", 9))}, content{}, content{rows(row("o", "n", 10)), gones(gone("o", 9))}},
		{"an elder one named by a, a row of b in its place", true, content{nil, gones(gone("o", 9))}, content{rows(row("o", "n", 21)), nil}, content{rows(row("o", "n", 21)), gones(gone("o", 9))}},
		{"what was never there", true, content{nil, gones(gone("u", 0))}, content{nil, gones(gone("t", 9), gone("v", 0))}, content{nil, gones(gone("t", 9), gone("u", 0), gone("v", 0))}},
		{"of one key by rising Times", true, content{nil, gones(gone("o", 3), gone("o", 9))}, content{nil, gones(gone("o", 1), gone("o", 5))}, content{nil, gones(gone("o", 1), gone("o", 3), gone("o", 5), gone("o", 9))}},
		{"one Time of several keys", true, content{nil, gones(gone("o", 5), gone("q", 5))}, content{nil, gones(gone("n", 5), gone("p", 5))}, content{nil, gones(gone("n", 5), gone("o", 5), gone("p", 5), gone("q", 5))}},

		{"no row of a, just above a's From", false, content{a, nil}, content{nil, gones(gone("u", 10))}, content{}},
		{"no row of a, at a's To", false, content{a, nil}, content{nil, gones(gone("u", 20))}, content{}},
		{"no row of a, at a's From", true, content{a, nil}, content{nil, gones(gone("u", 9))}, content{a, gones(gone("u", 9))}},
		{"a row of a at another Time", false, content{a, nil}, content{nil, gones(gone("a", 11))}, content{}},
		{"a row of a at another one's Time", false, content{a, nil}, content{nil, gones(gone("a", 20))}, content{}},
		{"a row of a at another Time and its own", false, content{a, nil}, content{nil, gones(gone("a", 10), gone("a", 11))}, content{}},
		{"a row of a at an elder Time", true, content{a, nil}, content{nil, gones(gone("a", 9))}, content{a, gones(gone("a", 9))}},
		{"a row of a at an elder Time and its own", true, content{a, nil}, content{nil, gones(gone("a", 9), gone("a", 10))}, content{a[1:], gones(gone("a", 9))}},
	} {
		d, m := three(c.a, c.b)
		if !c.right {
			refuses(t, c.what, d, m, 1, api.ErrCkptCorrupt)
			continue
		}
		want := merged(m, 1, 4)
		all(t, begins(t, c.what, d, m, 1, want))
		lies(t, c.what, d, "data-4", dataFile(want.Pairs[1], c.want.rows...))
		lies(t, c.what, d, "delta-4", deltaFile(want.Pairs[1], c.want.gone...))
	}
}

// manyRows are so many rows of a Time, by rising keys, of the numbers from one on.
func manyRows(from, n int, at int64, val string) []api.Row {
	var out []api.Row
	for i := range n {
		out = append(out, row(fmt.Sprintf("%05d", from+i), val, at))
	}
	return out
}

func manyGone(from, n int, at int64) []api.Gone {
	var out []api.Gone
	for i := range n {
		out = append(out, gone(fmt.Sprintf("%05d", from+i), at))
	}
	return out
}

func TestBeginOfMany(t *testing.T) { // P14.2
	for _, c := range []struct {
		what  string
		right bool
		a, b  content
		n, g  int // how many rows come of both, and how much that is gone
	}{
		{"4096 rows of a", true, content{manyRows(0, 4096, 10, ""), nil}, content{}, 4096, 0},
		{"4096 rows of b", true, content{}, content{manyRows(0, 4096, 21, ""), nil}, 4096, 0},
		{"4096 rows of both", true, content{manyRows(0, 2048, 10, ""), nil}, content{manyRows(2048, 2048, 21, ""), nil}, 4096, 0},
		{"4097 rows of both", false, content{manyRows(0, 2048, 10, ""), nil}, content{manyRows(2048, 2049, 21, ""), nil}, 0, 0},
		{"4096 rows of a, and one", false, content{manyRows(0, 4096, 10, ""), nil}, content{manyRows(5000, 1, 21, ""), nil}, 0, 0},
		{"one, and 4096 rows of b", false, content{manyRows(5000, 1, 10, ""), nil}, content{manyRows(0, 4096, 21, ""), nil}, 0, 0},
		{"4096 rows of a, and one in the place of another", true, content{manyRows(0, 4096, 10, ""), nil}, content{manyRows(7, 1, 21, "n"), manyGone(7, 1, 10)}, 4096, 0},
		{"4096 rows of a, and one more than go", false, content{manyRows(0, 4096, 10, ""), nil}, content{manyRows(4000, 97, 21, "n"), manyGone(4000, 96, 10)}, 0, 0},
		{"4096 rows of each, all in the place of others", true, content{manyRows(0, 4096, 10, ""), nil}, content{manyRows(0, 4096, 21, ""), manyGone(0, 4096, 10)}, 4096, 0},
		{"4096 rows of each", false, content{manyRows(0, 4096, 10, ""), nil}, content{manyRows(4096, 4096, 21, ""), nil}, 0, 0},

		{"4096 gone of a", true, content{nil, manyGone(0, 4096, 9)}, content{}, 0, 4096},
		{"4096 gone of b", true, content{}, content{nil, manyGone(0, 4096, 9)}, 0, 4096},
		{"4096 gone of both", true, content{nil, manyGone(1, 2048, 9)}, content{nil, manyGone(2049, 2048, 9)}, 0, 4096},
		{"4096 gone of both, of the same keys", true, content{nil, manyGone(1, 2048, 9)}, content{nil, manyGone(1, 2048, 8)}, 0, 4096},
		{"4097 gone of both", false, content{nil, manyGone(1, 2048, 9)}, content{nil, manyGone(2049, 2049, 9)}, 0, 0},
		{"4096 gone of a, and one", false, content{nil, manyGone(0, 4096, 9)}, content{nil, manyGone(5000, 1, 9)}, 0, 0},
		{"one, and 4096 gone of b", false, content{nil, manyGone(5000, 1, 9)}, content{nil, manyGone(0, 4096, 9)}, 0, 0},
		{"4096 gone of a, and all rows of a", true, content{manyRows(0, 4096, 10, ""), manyGone(0, 4096, 9)}, content{nil, manyGone(0, 4096, 10)}, 0, 4096},
		{"4095 gone of a, rows of a and one", true, content{manyRows(0, 9, 10, ""), manyGone(0, 4095, 9)}, content{nil, append(manyGone(0, 9, 10), gone("x", 0))}, 0, 4096},
		{"4095 gone of a, rows of a and two", false, content{manyRows(0, 9, 10, ""), manyGone(0, 4095, 9)}, content{nil, append(manyGone(0, 9, 10), gone("x", 0), gone("y", 0))}, 0, 0},
		{"4096 of each", true, content{manyRows(0, 2048, 10, ""), manyGone(0, 2048, 9)}, content{manyRows(2048, 2048, 30, ""), manyGone(2048, 2048, 9)}, 4096, 4096},
	} {
		d, m := three(c.a, c.b)
		if !c.right {
			refuses(t, c.what, d, m, 1, api.ErrCkptCorrupt)
			continue
		}
		all(t, begins(t, c.what, d, m, 1, merged(m, 1, 4)))
		data, _ := d.Read("data-4")
		delta, _ := d.Read("delta-4")
		if len(data) != 32*(c.n+1) || len(delta) != 32*(c.g+1) {
			t.Errorf("%s: %d and %d bytes, not %d rows and %d gone", c.what, len(data), len(delta), c.n, c.g)
		}
	}
}

// Where several errors apply, the first one of the promise is answered.
func TestBeginFirstError(t *testing.T) { // P14.2, R1
	m, _ := some()
	wrong := api.Manifest{Time: -1, Log: -1}
	last := numbered(1, 2, lastNumber)
	refuses(t, "all of it", nil, wrong, -1, api.ErrNil)
	refuses(t, "but the disk", off(disk.New()), wrong, -1, api.ErrCkptForm)
	refuses(t, "but the disk and the manifest", off(disk.New()), last, -1, api.ErrMergeNone)
	refuses(t, "but these and the place", off(disk.New()), last, 1, api.ErrDiskOff)
	refuses(t, "but these and the power", disk.New(), last, 1, api.ErrCkptCorrupt)
	clash := []content{{}, {rows: rows(row("a", "x", 11))}, {rows: rows(row("a", "x", 21))}}
	refuses(t, "two that may not be one, and the Number", files(filesOf(last, clash...)), last, 1, api.ErrCkptCorrupt)
	refuses(t, "the Number", files(filesOf(last, clash...)), last, 0, api.ErrCkptForm)
	many := []content{{}, {rows: manyRows(0, 4096, 11, "")}, {rows: manyRows(4096, 1, 21, "")}}
	refuses(t, "too many, and the Number", files(filesOf(last, many...)), last, 1, api.ErrCkptCorrupt)
	above := []content{{}, {}, {gone: gones(gone("a", 15))}}
	refuses(t, "no delta file, and the Number", files(filesOf(last, above...)), last, 1, api.ErrCkptCorrupt)
	refuses(t, "a disk without files", disk.New(), m, 0, api.ErrCkptCorrupt)
}

// What is handed in is left as it was, and whoever changes it later changes nothing of a merger's.
func TestMemory(t *testing.T) { // R3
	mark := api.Pair{Number: 77, From: 77, To: 78}
	for at := range 3 {
		m, _ := some()
		was := slices.Clone(m.Pairs)
		m.Pairs = spare(m.Pairs, mark)
		d := files(someFiles())
		want := merged(m, at, 5)
		w := begins(t, "", d, m, at, want)
		untouched(t, "pairs", m.Pairs, was, mark)
		for i := range m.Pairs[:cap(m.Pairs)] {
			m.Pairs[:cap(m.Pairs)][i] = mark
		}
		one, other := w.Manifest(), w.Manifest()
		for i := range one.Pairs[:cap(one.Pairs)] {
			one.Pairs[:cap(one.Pairs)][i] = mark
		}
		if !sameManifests(other, want) || !sameManifests(w.Manifest(), want) {
			t.Error("two manifests share memory")
		}
		all(t, w)
		loads(t, "behind it", d, want, someRows...)
		// A manifest that is refused is left as it was, too.
		m, _ = some()
		m.Pairs = spare(m.Pairs, mark)
		for _, place := range []int{-1, 0, 3, 9} {
			merge.Begin(disk.New(), m, place)
		}
		untouched(t, "pairs", m.Pairs, was, mark)
	}
}

func TestNilMerger(t *testing.T) { // P14.2, P14.3, R4
	var w *merge.Merger
	for range 3 {
		if done, e := w.Step(); done || e != api.ErrNil {
			t.Error(done, e)
		}
		if m := w.Manifest(); !sameManifests(m, api.Manifest{}) {
			t.Error(m)
		}
	}
}

func TestManifest(t *testing.T) { // P14.2
	m, _ := some()
	for at := range 3 {
		d := files(someFiles())
		want := merged(m, at, 5)
		w := begins(t, "", d, m, at, want)
		for i := range 12 {
			got := w.Manifest()
			if !sameManifests(got, want) {
				t.Fatalf("behind %d steps: %s, not %s", i, told(got), told(want))
			}
			for k := range got.Pairs {
				got.Pairs[k] = api.Pair{Number: 77} // what is answered is the caller's
			}
			w.Step()
		}
		loads(t, "behind all steps", d, want, someRows...)
	}
}
