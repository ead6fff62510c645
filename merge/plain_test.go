package merge_test

import (
	"fmt"
	"math/rand"
	"sort"
	"strings"
	"testing"

	"varve/api"
	"varve/disk"
	"varve/frame"
	"varve/merge"
	"varve/record"
)

// plainRows goes through the keys one by one, and asks of each which row stays.
func plainRows(a, b []api.Row, g []api.Gone) []api.Row {
	isNamed := func(r api.Row) bool {
		for _, x := range g {
			if x.Key == r.Key && x.Time == r.Time {
				return true
			}
		}
		return false
	}
	keys := map[string]int{}
	for _, r := range a {
		keys[r.Key]++
	}
	for _, r := range b {
		keys[r.Key]++
	}
	var sorted []string
	for key := range keys {
		sorted = append(sorted, key)
	}
	sort.Strings(sorted)
	var out []api.Row
	for _, key := range sorted {
		var may []api.Row
		for _, r := range b {
			if r.Key == key {
				may = append(may, r)
			}
		}
		if len(may) == 0 {
			for _, r := range a {
				if r.Key == key && !isNamed(r) {
					may = append(may, r)
				}
			}
		}
		if len(may) > 0 {
			out = append(out, may[0])
		}
	}
	return out
}

func TestRowsAgainstPlain(t *testing.T) { // P14.1
	draw := rand.New(rand.NewSource(14))
	keys := []string{"", "a", "b", "aa", "\x00", "\xff", "c", strings.Repeat("k", 20)}
	times := []int64{-1, 0, 1, 2, lastTime, lastTime + 1}
	for round := range 30000 {
		some := 1 + draw.Intn(len(keys))
		of := func() []api.Row {
			var out []api.Row
			for i := range draw.Intn(7) {
				out = append(out, row(keys[draw.Intn(some)], fmt.Sprint(i), times[draw.Intn(4)]))
			}
			return out
		}
		a, b := of(), of()
		var g []api.Gone
		for range draw.Intn(6) {
			if x := gone(keys[draw.Intn(some)], times[draw.Intn(len(times))]); len(a) > 0 && draw.Intn(2) == 0 {
				r := a[draw.Intn(len(a))]
				g = append(g, gone(r.Key, r.Time))
			} else {
				g = append(g, x)
			}
		}
		if got, want := merge.Rows(a, b, g), plainRows(a, b, g); fmt.Sprint(got) != fmt.Sprint(want) {
			t.Fatalf("round %d: Rows(%v, %v, %v): %v, not %v", round, a, b, g, got, want)
		}
	}
}

// plainMerger is a second merger, told as the chapters tell it: what lies in each file, and which of the operations is next.
type plainMerger struct {
	d        *disk.Disk
	m        api.Manifest
	n        int
	contents map[string][]byte
	at       int
	over     api.Errno
}

// plainFrames are the bodies of a file that is just frames, numbered from 0 on, with one ahead of them.
func plainFrames(b []byte) ([][]byte, bool) {
	var bodies [][]byte
	for at := 0; at < len(b); {
		seq, body, behind, ok := frame.Take(b, at)
		if !ok || seq != uint64(len(bodies)) {
			return nil, false
		}
		bodies, at = append(bodies, body), behind
	}
	return bodies, len(bodies) > 0
}

// plainMay: may a pair have this?
func plainMay(p api.Pair, c content) bool {
	for i, r := range c.rows {
		if r.Time <= p.From || r.Time > p.To || i > 0 && strings.Compare(c.rows[i-1].Key, r.Key) >= 0 {
			return false
		}
	}
	for i, g := range c.gone {
		if g.Time > p.From {
			return false
		}
		if i == 0 {
			continue
		}
		way := strings.Compare(c.gone[i-1].Key, g.Key)
		if way > 0 || way == 0 && c.gone[i-1].Time >= g.Time {
			return false
		}
	}
	return true
}

// plainPair reads a pair's files by writing them again: bytes have one form.
func plainPair(d *disk.Disk, p api.Pair) (content, bool) {
	data, e := d.Read(fmt.Sprint("data-", p.Number))
	delta, f := d.Read(fmt.Sprint("delta-", p.Number))
	rowsIn, ok := plainFrames(data)
	goneIn, fine := plainFrames(delta)
	var c content
	if e != api.OK || f != api.OK || !ok || !fine {
		return c, false
	}
	for _, b := range rowsIn[1:] {
		x, _, e := record.Row(b)
		if e != api.OK {
			return c, false
		}
		c.rows = append(c.rows, x)
	}
	for _, b := range goneIn[1:] {
		x, _, e := record.Gone(b)
		if e != api.OK {
			return c, false
		}
		c.gone = append(c.gone, x)
	}
	return c, string(dataFile(p, c.rows...)) == string(data) && string(deltaFile(p, c.gone...)) == string(delta) && plainMay(p, c)
}

// plainOne is what two pairs have as one: each thing of each list is asked for by going through the others. The last answer: do both name one thing? (Of that the chapter says nothing.)
func plainOne(a, b content) (one content, ok, twice bool) {
	ok = true
	for _, r := range a.rows {
		named, again := false, false
		for _, g := range b.gone {
			named = named || g.Key == r.Key && g.Time == r.Time
		}
		for _, s := range b.rows {
			again = again || s.Key == r.Key
		}
		if !named {
			one.rows = append(one.rows, r)
			ok = ok && !again
		}
	}
	one.rows = append(one.rows, b.rows...)
	one.gone = append(one.gone, a.gone...)
	for _, g := range b.gone {
		is := false
		for _, r := range a.rows {
			is = is || g.Key == r.Key && g.Time == r.Time
		}
		for _, x := range a.gone {
			twice = twice || x == g
		}
		if !is {
			one.gone = append(one.gone, g)
		}
	}
	sort.Slice(one.rows, func(i, j int) bool { return one.rows[i].Key < one.rows[j].Key })
	sort.Slice(one.gone, func(i, j int) bool {
		x, y := one.gone[i], one.gone[j]
		return x.Key < y.Key || x.Key == y.Key && x.Time < y.Time
	})
	return one, ok, twice
}

// plainBegin: the merger, the error, and whether both name one thing.
func plainBegin(d *disk.Disk, m api.Manifest, at int) (*plainMerger, api.Errno, bool) {
	if _, e := record.PutManifest(m); e != api.OK {
		return nil, api.ErrCkptForm, false
	}
	if at < 0 || at+1 >= len(m.Pairs) {
		return nil, api.ErrMergeNone, false
	}
	if _, e := d.Read("x"); e == api.ErrDiskOff {
		return nil, e, false
	}
	a, ok := plainPair(d, m.Pairs[at])
	b, fine := plainPair(d, m.Pairs[at+1])
	if !ok || !fine {
		return nil, api.ErrCkptCorrupt, false
	}
	one, ok, twice := plainOne(a, b)
	p := api.Pair{Number: greatest(m) + 1, From: m.Pairs[at].From, To: m.Pairs[at+1].To}
	if !ok || !plainMay(p, one) || len(one.rows) > 4096 || len(one.gone) > 4096 {
		return nil, api.ErrCkptCorrupt, twice
	}
	if p.Number >= 1<<31 {
		return nil, api.ErrCkptForm, twice
	}
	w := &plainMerger{d: d, n: p.Number, m: merged(m, at, p.Number)}
	w.contents = map[string][]byte{
		fmt.Sprint("data-", w.n):  dataFile(p, one.rows...),
		fmt.Sprint("delta-", w.n): deltaFile(p, one.gone...),
		"manifest.new":            manifestFile(w.m),
	}
	return w, api.OK, twice
}

func plainHas(d *disk.Disk, name string) bool {
	for _, s := range d.Names() {
		if s == name {
			return true
		}
	}
	return false
}

func (w *plainMerger) Step() (bool, api.Errno) {
	if w.over != api.OK {
		return false, w.over
	}
	words := []string{"delete D", "delete L", "delete M", "append D", "sync D", "append L", "sync L", "dir", "append M", "sync M", "rename M", "dir"}
	for w.at < len(words) {
		word, letter, _ := strings.Cut(words[w.at], " ")
		name := map[string]string{"D": fmt.Sprint("data-", w.n), "L": fmt.Sprint("delta-", w.n), "M": "manifest.new"}[letter]
		w.at++
		switch word {
		case "delete":
			if !plainHas(w.d, name) {
				continue
			}
			w.over = w.d.Delete(name)
		case "append":
			w.over = w.d.Append(name, w.contents[name])
		case "sync":
			w.over = w.d.Sync(name)
		case "rename":
			w.over = w.d.Rename(name, "manifest")
		case "dir":
			w.over = w.d.SyncDir()
		}
		break
	}
	return w.over == api.OK && w.at == len(words), w.over
}

// world is a disk and a plain one, to both of which the same is done.
type world struct {
	d, plainDisk *disk.Disk
	m            api.Manifest
	w            *merge.Merger
	plain        *plainMerger
	draw         *rand.Rand
	done         []string
}

func (x *world) oneIn(n int) bool { return x.draw.Intn(n) == 0 }

// content of a pair, mostly as the chapter lets it have: what is gone are mostly rows of those ahead.
func (x *world) content(p api.Pair, ahead []api.Row, wild bool) content {
	var c content
	off := func(at int64) int64 {
		if wild && x.oneIn(8) {
			return max(0, at+int64(x.draw.Intn(5)-2))
		}
		return at
	}
	for _, r := range ahead {
		if r.Time <= p.From && x.oneIn(2) {
			c.gone = append(c.gone, gone(r.Key, off(r.Time)))
		}
	}
	if wild && x.oneIn(3) {
		c.gone = append(c.gone, gone(string(rune('a'+x.draw.Intn(6))), int64(x.draw.Intn(int(p.From)+1))))
	}
	sort.Slice(c.gone, func(i, j int) bool {
		a, b := c.gone[i], c.gone[j]
		return a.Key < b.Key || a.Key == b.Key && a.Time < b.Time
	})
	for key := range 6 {
		r := row(string(rune('a'+key)), strings.Repeat("v", x.draw.Intn(30)), off(p.From+1+int64(x.draw.Intn(int(p.To-p.From)))))
		there := 0
		for _, s := range ahead {
			if s.Key == r.Key {
				there++
			}
		}
		for _, g := range c.gone {
			if g.Key == r.Key {
				there--
			}
		}
		if x.oneIn(3) && (there <= 0 || wild && x.oneIn(3)) {
			c.rows = append(c.rows, r)
		}
	}
	if wild && x.oneIn(12) && len(c.rows) > 1 {
		c.rows[0], c.rows[1] = c.rows[1], c.rows[0]
	}
	return c
}

// lay lays the files of a manifest on both disks.
func (x *world) lay() {
	var ends []int64
	to := int64(0)
	for range 1 + x.draw.Intn(5) {
		to += int64(1 + x.draw.Intn(4))
		ends = append(ends, to)
	}
	x.m = manifest(1+x.draw.Intn(3), ends...)
	if x.oneIn(3) { // other numbers, none twice
		for i, n := range x.draw.Perm(9)[:len(ends)] {
			x.m.Pairs[i].Number = n + 1
		}
	}
	if x.oneIn(12) {
		x.m.Pairs[x.draw.Intn(len(ends))].Number = lastNumber - x.draw.Intn(2)
	}
	wild := x.oneIn(2)
	has := map[string][]byte{"manifest": manifestFile(x.m)}
	var there []api.Row
	for _, p := range x.m.Pairs {
		c := x.content(p, there, wild)
		has[fmt.Sprint("data-", p.Number)], has[fmt.Sprint("delta-", p.Number)] = dataFile(p, c.rows...), deltaFile(p, c.gone...)
		there = plainRows(there, c.rows, c.gone)
	}
	if x.oneIn(3) {
		has["manifest.new"] = []byte("x")
	}
	x.d, x.plainDisk = files(has), files(has)
}

// spoil does something to both disks that neither writers nor mergers do.
func (x *world) spoil() string {
	names := x.d.Names()
	name := names[x.draw.Intn(len(names))]
	b, _ := x.d.Read(name)
	switch k := x.draw.Intn(4); {
	case k == 0 && len(b) > 0:
		at, by := x.draw.Intn(len(b)), byte(x.draw.Intn(256))
		x.d.Poke(name, at, by)
		x.plainDisk.Poke(name, at, by)
		return fmt.Sprint("poke ", name, " ", at)
	case k == 1 && len(names) > 1:
		x.d.Delete(name)
		x.plainDisk.Delete(name)
		return "delete " + name
	case k == 2:
		to := names[x.draw.Intn(len(names))]
		x.d.Rename(name, to)
		x.plainDisk.Rename(name, to)
		return "rename " + name + " to " + to
	}
	x.d.Append(name, []byte("x"))
	x.plainDisk.Append(name, []byte("x"))
	return "append " + name
}

// begin: what was asked, its error, and what both have answered.
func (x *world) begin() (string, api.Errno, string, string) {
	m, at := x.m, x.draw.Intn(max(1, len(x.m.Pairs)-1))
	if x.oneIn(10) {
		at = x.draw.Intn(8) - 1
	}
	if x.oneIn(15) {
		m.Time++
	}
	what := fmt.Sprintf("Begin %+v %d", m, at)
	plain, f, twice := plainBegin(x.plainDisk, m, at)
	if twice {
		return what, api.OK, "", ""
	}
	w, e := merge.Begin(x.d, m, at)
	if w == nil || plain == nil {
		return what, e, fmt.Sprint(w == nil, e), fmt.Sprint(plain == nil, f)
	}
	x.w, x.plain = w, plain
	return what, e, fmt.Sprintf("%+v %v", w.Manifest(), e), fmt.Sprintf("%+v %v", plain.m, f)
}

// do does one thing to both: which, its error, and what both have answered.
func (x *world) do() (string, api.Errno, string, string) {
	switch k := x.draw.Intn(40); {
	case k < 26 && x.w != nil:
		done, e := x.w.Step()
		plain, f := x.plain.Step()
		if done {
			x.m = x.plain.m
		}
		return "Step", e, fmt.Sprint(done, e), fmt.Sprint(plain, f)
	case k < 34:
		return x.begin()
	case k < 35:
		at := x.draw.Intn(12) - 3
		if at >= 0 {
			at += x.d.Ops()
		}
		x.d.CutAt(at)
		x.plainDisk.CutAt(at)
		return fmt.Sprint("CutAt ", at), api.OK, "", ""
	case k < 36 && x.oneIn(2):
		return x.spoil(), api.OK, "", ""
	case k < 37:
		f := api.Fate{Keep: x.draw.Intn(300) * x.draw.Intn(2), Dirs: x.draw.Intn(6), Tear: x.draw.Intn(70) * x.draw.Intn(2)}
		x.d, x.plainDisk = x.d.Crash(f), x.plainDisk.Crash(f)
		x.w, x.plain = nil, nil
		return "Crash", api.OK, "", ""
	}
	return x.begin()
}

// P14.2 and P14.3: whatever is done, both answer the same, and leave the same on the disk.
func TestAgainstPlain(t *testing.T) {
	t.Parallel()
	counts := map[string]int{}
	for seed := range int64(1500) {
		x := &world{draw: rand.New(rand.NewSource(seed))}
		x.lay()
		for range 60 {
			if len(x.d.Names()) == 0 {
				break
			}
			what, e, got, want := x.do()
			x.done = append(x.done, what)
			if got != want {
				t.Fatalf("seed %d, %s: %s, not %s", seed, strings.Join(x.done, "; "), told(got), told(want))
			}
			word, _, _ := strings.Cut(what, " ")
			counts[fmt.Sprint(word, " ", int(e))]++
			if x.oneIn(20) {
				sameDisks(t, fmt.Sprint("seed ", seed, " ", x.done), x.d, x.plainDisk)
			}
		}
		sameDisks(t, fmt.Sprint("seed ", seed, " ", x.done), x.d, x.plainDisk)
	}
	for _, often := range []string{"Begin 0", "Begin 120", "Begin 121", "Begin 140", "Begin 24", "Step 0", "Step 24"} {
		if counts[often] < 200 {
			t.Errorf("%s came too seldom: %v", often, counts)
		}
	}
}
