package ckpt_test

import (
	"fmt"
	"math/rand"
	"sort"
	"strings"
	"testing"

	"varve/api"
	"varve/ckpt"
	"varve/disk"
	"varve/frame"
	"varve/record"
)

// plainWriter is a second writer, told as the chapter tells it: what lies in each file, and which of the operations is next.
type plainWriter struct {
	d        *disk.Disk
	m        api.Manifest
	n        int
	contents map[string][]byte
	at       int
	over     api.Errno
}

func plainMay(m api.Manifest, to int64, log int, r []api.Row, g []api.Gone) bool {
	if _, e := record.PutManifest(m); e != api.OK {
		return false
	}
	if len(m.Pairs) == 16 || to <= m.Time || to >= 1<<40 || log < m.Log || log >= 1<<31 || len(r) > 4096 || len(g) > 4096 {
		return false
	}
	for i, x := range r {
		if _, e := record.PutRow(x); e != api.OK || x.Time <= m.Time || x.Time > to {
			return false
		}
		if i > 0 && strings.Compare(r[i-1].Key, x.Key) >= 0 {
			return false
		}
	}
	for i, x := range g {
		if _, e := record.PutGone(x); e != api.OK || x.Time > m.Time {
			return false
		}
		if i == 0 {
			continue
		}
		switch strings.Compare(g[i-1].Key, x.Key) {
		case 1:
			return false
		case 0:
			if g[i-1].Time >= x.Time {
				return false
			}
		}
	}
	for _, p := range m.Pairs {
		if p.Number == 1<<31-1 {
			return false
		}
	}
	return true
}

func plainWrite(d *disk.Disk, m api.Manifest, to int64, log int, r []api.Row, g []api.Gone) (*plainWriter, api.Errno) {
	if !plainMay(m, to, log, r, g) {
		return nil, api.ErrCkptForm
	}
	w := &plainWriter{d: d, n: 1}
	for _, p := range m.Pairs {
		if p.Number >= w.n {
			w.n = p.Number + 1
		}
	}
	p := api.Pair{Number: w.n, From: m.Time, To: to}
	w.m = api.Manifest{Time: to, Log: log, Pairs: append(append([]api.Pair{}, m.Pairs...), p)}
	w.contents = map[string][]byte{
		fmt.Sprint("data-", w.n):  dataFile(p, r...),
		fmt.Sprint("delta-", w.n): deltaFile(p, g...),
		"manifest.new":            manifestFile(w.m),
	}
	return w, api.OK
}

func plainHas(d *disk.Disk, name string) bool {
	for _, s := range d.Names() {
		if s == name {
			return true
		}
	}
	return false
}

func (w *plainWriter) Step() (bool, api.Errno) {
	if w.over != api.OK {
		return false, w.over
	}
	words := []string{"delete D", "delete L", "delete M", "append D", "sync D", "append L", "sync L", "dir", "append M", "sync M", "rename M", "dir"}
	for w.at < len(words) {
		word, letter, _ := strings.Cut(words[w.at], " ")
		name := map[string]string{"D": fmt.Sprint("data-", w.n), "L": fmt.Sprint("delta-", w.n), "M": "manifest.new"}[letter]
		w.at++
		switch word {
		case "delete":
			if !plainHas(w.d, name) {
				continue
			}
			w.over = w.d.Delete(name)
		case "append":
			w.over = w.d.Append(name, w.contents[name])
		case "sync":
			w.over = w.d.Sync(name)
		case "rename":
			w.over = w.d.Rename(name, "manifest")
		case "dir":
			w.over = w.d.SyncDir()
		}
		break
	}
	return w.over == api.OK && w.at == len(words), w.over
}

// plainFrames are the bodies of a file that is just frames, numbered from 0 on.
func plainFrames(b []byte) ([][]byte, bool) {
	var bodies [][]byte
	for at := 0; at < len(b); {
		seq, body, behind, ok := frame.Take(b, at)
		if !ok || seq != uint64(len(bodies)) {
			return nil, false
		}
		bodies, at = append(bodies, body), behind
	}
	return bodies, true
}

// plainPair reads a pair's files by writing them again: bytes have one form.
func plainPair(d *disk.Disk, p api.Pair) ([]api.Row, []api.Gone, bool) {
	data, e := d.Read(fmt.Sprint("data-", p.Number))
	delta, f := d.Read(fmt.Sprint("delta-", p.Number))
	rowsIn, ok := plainFrames(data)
	goneIn, fine := plainFrames(delta)
	if e != api.OK || f != api.OK || !ok || !fine || len(rowsIn) == 0 || len(goneIn) == 0 {
		return nil, nil, false
	}
	var r []api.Row
	for _, b := range rowsIn[1:] {
		x, _, e := record.Row(b)
		if e != api.OK {
			return nil, nil, false
		}
		r = append(r, x)
	}
	var g []api.Gone
	for _, b := range goneIn[1:] {
		x, _, e := record.Gone(b)
		if e != api.OK {
			return nil, nil, false
		}
		g = append(g, x)
	}
	if string(dataFile(p, r...)) != string(data) || string(deltaFile(p, g...)) != string(delta) {
		return nil, nil, false
	}
	from := api.Manifest{Time: p.From, Log: 1}
	if p.From > 0 {
		from.Pairs = []api.Pair{{Number: 1, From: 0, To: p.From}}
	}
	return r, g, plainMay(from, p.To, 1, r, g)
}

func plainLoad(d *disk.Disk) (api.Manifest, []api.Row, api.Errno) {
	b, e := d.Read("manifest")
	if e == api.ErrDiskNone {
		return api.Manifest{Log: 1}, nil, api.OK
	}
	if e != api.OK {
		return api.Manifest{}, nil, e
	}
	bodies, ok := plainFrames(b)
	if !ok || len(bodies) != 1 {
		return api.Manifest{}, nil, api.ErrCkptCorrupt
	}
	m, _, e := record.Manifest(bodies[0])
	if e != api.OK {
		return api.Manifest{}, nil, api.ErrCkptCorrupt
	}
	var there []api.Row
	find := func(key string) int {
		for i, r := range there {
			if r.Key == key {
				return i
			}
		}
		return -1
	}
	for _, p := range m.Pairs {
		r, g, ok := plainPair(d, p)
		if !ok {
			return api.Manifest{}, nil, api.ErrCkptCorrupt
		}
		for _, x := range g {
			i := find(x.Key)
			if i < 0 || there[i].Time != x.Time {
				return api.Manifest{}, nil, api.ErrCkptCorrupt
			}
			there = append(there[:i:i], there[i+1:]...)
		}
		for _, x := range r {
			if find(x.Key) >= 0 {
				return api.Manifest{}, nil, api.ErrCkptCorrupt
			}
			there = append(there, x)
		}
	}
	sort.Slice(there, func(i, j int) bool { return there[i].Key < there[j].Key })
	return m, there, api.OK
}

// plainClean tries the names up to the greatest number that the tests take, instead of reading numbers from names.
func plainClean(d *disk.Disk, m api.Manifest) (bool, api.Errno) {
	if _, e := record.PutManifest(m); e != api.OK {
		return false, api.ErrCkptForm
	}
	if _, e := d.Read("x"); e == api.ErrDiskOff {
		return false, e
	}
	mine := map[int]int{}
	for _, p := range m.Pairs {
		mine[p.Number]++
	}
	names := []string{"manifest.new"}
	for n := 1; n < 40; n++ {
		if mine[n] == 0 {
			names = append(names, fmt.Sprint("data-", n), fmt.Sprint("delta-", n))
		}
	}
	sort.Strings(names)
	found := 0
	for _, name := range names {
		if !plainHas(d, name) {
			continue
		}
		if found++; found == 1 {
			if e := d.Delete(name); e != api.OK {
				return false, e
			}
		}
	}
	return found <= 1, api.OK
}

// world is a disk and a plain one, to both of which the same is done.
type world struct {
	d, plainDisk *disk.Disk
	w            *ckpt.Writer
	plain        *plainWriter
	m            api.Manifest // what Load told last
	rows         []api.Row
	draw         *rand.Rand
	done         []string
}

func (x *world) oneIn(n int) bool { return x.draw.Intn(n) == 0 }

// shift is a Time that is often off by a little, if it may be.
func (x *world) shift(at int64, wild bool) int64 {
	if wild && x.oneIn(6) {
		return at + int64(x.draw.Intn(5)-2)
	}
	return at
}

// asked is what Write is handed: often right, and wild ones seldom.
func (x *world) asked() (m api.Manifest, to int64, log int, r []api.Row, g []api.Gone) {
	wild := x.oneIn(3)
	m = x.m
	m.Pairs = append([]api.Pair{}, m.Pairs...)
	if wild && x.oneIn(6) {
		m = manifest(1+x.draw.Intn(3), []int64{3, 7, 9}[:x.draw.Intn(4)]...)
	}
	if wild && x.oneIn(10) {
		m.Time++
	}
	span := 1 + x.draw.Intn(4)
	to, log = x.shift(m.Time+int64(span), wild), m.Log+x.draw.Intn(2)
	if wild && x.oneIn(8) {
		log -= 2
	}
	kept := map[string]int{}
	for _, old := range x.rows {
		kept[old.Key] = 1
		if x.oneIn(3) {
			g = append(g, gone(old.Key, x.shift(old.Time, wild)))
			kept[old.Key] = 0
			if wild && x.oneIn(5) {
				g = append(g, gone(old.Key, x.shift(old.Time+1, wild)))
			}
		}
	}
	for key := range 10 {
		name := string(rune('a' + key))
		if x.oneIn(3) && (kept[name] == 0 || wild && x.oneIn(4)) {
			r = append(r, row(name, strings.Repeat("v", x.draw.Intn(64)), x.shift(m.Time+1+int64(x.draw.Intn(span)), wild)))
		}
	}
	if wild && x.oneIn(5) {
		x.draw.Shuffle(len(r), func(i, j int) { r[i], r[j] = r[j], r[i] })
	}
	if wild && x.oneIn(5) {
		x.draw.Shuffle(len(g), func(i, j int) { g[i], g[j] = g[j], g[i] })
	}
	return m, to, log, r, g
}

// spoil does something to both disks that no writer does.
func (x *world) spoil() string {
	names := x.d.Names()
	name := []string{"data-1", "delta-2", "data-3", "delta-30", "data-012", "manifest.new", "manifest", "log-1", "delta-0"}[x.draw.Intn(9)]
	if len(names) > 0 && x.oneIn(2) {
		name = names[x.draw.Intn(len(names))]
	}
	b, _ := x.d.Read(name)
	switch k := x.draw.Intn(4); {
	case k == 0 && len(b) > 0:
		at, by := x.draw.Intn(len(b)), byte(x.draw.Intn(256))
		x.d.Poke(name, at, by)
		x.plainDisk.Poke(name, at, by)
		return fmt.Sprint("poke ", name, " ", at)
	case k == 1:
		x.d.Delete(name)
		x.plainDisk.Delete(name)
		return "delete " + name
	case k == 2 && len(names) > 0:
		to := names[x.draw.Intn(len(names))]
		x.d.Rename(name, to)
		x.plainDisk.Rename(name, to)
		return "rename " + name + " to " + to
	}
	p := api.Pair{Number: 1 + x.draw.Intn(3), From: int64(x.draw.Intn(3)), To: int64(3 + x.draw.Intn(3))}
	more := [][]byte{nil, []byte("x"), dataFile(p, row("a", "", 3)), deltaFile(p), manifestFile(manifest(1, 5))}[x.draw.Intn(5)]
	x.d.Append(name, more)
	x.plainDisk.Append(name, more)
	return "append " + name
}

func (x *world) load() (string, api.Errno, string, string) {
	m, r, e := ckpt.Load(x.d)
	n, s, f := plainLoad(x.plainDisk)
	if e == api.OK {
		x.m, x.rows = m, r
	}
	return "Load", e, fmt.Sprintf("%+v %+v %v", m, r, e), fmt.Sprintf("%+v %+v %v", n, s, f)
}

func (x *world) write() (string, api.Errno, string, string) {
	m, to, log, r, g := x.asked()
	w, e := ckpt.Write(x.d, m, to, log, r, g)
	plain, f := plainWrite(x.plainDisk, m, to, log, r, g)
	what := fmt.Sprintf("Write %+v %d %d %+v %+v", m, to, log, r, g)
	if (w == nil) != (plain == nil) {
		return what, e, fmt.Sprint(w, e), fmt.Sprint(plain, f)
	}
	if w == nil {
		return what, e, fmt.Sprint(e), fmt.Sprint(f)
	}
	x.w, x.plain = w, plain
	return what, e, fmt.Sprintf("%+v %v", w.Manifest(), e), fmt.Sprintf("%+v %v", plain.m, f)
}

// do does one thing to both: which, its error, and what both have answered.
func (x *world) do() (string, api.Errno, string, string) {
	switch k := x.draw.Intn(60); {
	case k < 35 && x.w != nil:
		done, e := x.w.Step()
		plain, f := x.plain.Step()
		return "Step", e, fmt.Sprint(done, e), fmt.Sprint(plain, f)
	case k < 42:
		x.load()
		return x.write()
	case k < 45:
		m := x.m
		if x.oneIn(4) {
			m = manifest(x.draw.Intn(3), 5)
		}
		done, e := ckpt.Clean(x.d, m)
		plain, f := plainClean(x.plainDisk, m)
		return fmt.Sprintf("Clean %+v", m), e, fmt.Sprint(done, e), fmt.Sprint(plain, f)
	case k < 47:
		at := x.draw.Intn(12) - 1
		if at >= 0 {
			at += x.d.Ops()
		}
		x.d.CutAt(at)
		x.plainDisk.CutAt(at)
		return fmt.Sprint("CutAt ", at), api.OK, "", ""
	case k < 48 && x.oneIn(2):
		return x.spoil(), api.OK, "", ""
	case k < 50:
		f := api.Fate{Keep: x.draw.Intn(300) * x.draw.Intn(2), Dirs: x.draw.Intn(6), Tear: x.draw.Intn(70) * x.draw.Intn(2)}
		x.d, x.plainDisk = x.d.Crash(f), x.plainDisk.Crash(f)
		x.w, x.plain = nil, nil
	}
	return x.load()
}

// P12.2 to P12.5: whatever is done, both answer the same, and leave the same on the disk.
func TestAgainstPlain(t *testing.T) {
	counts := map[string]int{}
	for seed := range int64(800) {
		x := &world{d: disk.New(), plainDisk: disk.New(), m: manifest(1), draw: rand.New(rand.NewSource(seed))}
		for range 120 {
			what, e, got, want := x.do()
			x.done = append(x.done, what)
			if got != want {
				t.Fatalf("seed %d, %s: %s, not %s", seed, strings.Join(x.done, "; "), told(got), told(want))
			}
			word, _, _ := strings.Cut(what, " ")
			counts[fmt.Sprint(word, " ", int(e))]++
			if x.oneIn(8) {
				sameDisks(t, fmt.Sprint("seed ", seed, " ", x.done), x.d, x.plainDisk)
			}
		}
		sameDisks(t, fmt.Sprint("seed ", seed, " ", x.done), x.d, x.plainDisk)
	}
	for _, often := range []string{"Write 0", "Write 120", "Step 0", "Step 21", "Step 24", "Load 0", "Load 24", "Load 121", "Clean 0", "Clean 24", "Clean 120"} {
		if counts[often] < 100 {
			t.Errorf("%s came too seldom: %v", often, counts)
		}
	}
}
