package reload_test

import (
	"fmt"
	"math"
	"reflect"
	"slices"
	"strings"
	"testing"

	"varve/api"
	"varve/disk"
	"varve/frame"
	"varve/num"
	"varve/record"
	"varve/reload"
	"varve/wal"
)

const (
	lots      = 1 << 20 // more than any file here has bytes, or any directory operations
	lastTime  = 1<<40 - 1
	lastLog   = 1<<31 - 1
	mostFirst = 1 << 30 // the last segment that wal.Open begins with
)

func told(x any) string {
	s := fmt.Sprintf("%+v", x)
	return s[:min(len(s), 400)]
}

func row(key, val string, at int64) api.Row { return api.Row{Key: key, Val: val, Time: at} }

func rows(list ...api.Row) []api.Row { return list }

func set(key, val string) api.Write { return api.Write{Key: key, Val: val} }

func gone(key string) api.Write { return api.Write{Key: key, Gone: true} }

func commit(at int64, writes ...api.Write) api.Commit { return api.Commit{Time: at, Writes: writes} }

func commits(list ...api.Commit) []api.Commit { return list }

// manifest is one with pairs 1, 2, .. that end at these Times.
func manifest(log int, ends ...int64) api.Manifest {
	m := api.Manifest{Log: log}
	for i, to := range ends {
		m.Pairs = append(m.Pairs, api.Pair{Number: i + 1, From: m.Time, To: to})
		m.Time = to
	}
	return m
}

func must(b []byte, e api.Errno) []byte {
	if e != api.OK {
		panic(e)
	}
	return b
}

// frames are the bodies' frames, one behind the other, numbered from seq on.
func frames(seq uint64, bodies ...[]byte) []byte {
	var b []byte
	for i, x := range bodies {
		b = append(b, must(frame.Put(nil, seq+uint64(i), x))...)
	}
	return b
}

// segment is a segment's file, its frames numbered from seq on, with a seal behind the commits.
func segment(number int, seq uint64, list ...api.Commit) []byte {
	bodies := [][]byte{num.Put([]byte("L"), uint64(number))}
	for _, c := range list {
		bodies = append(bodies, must(record.PutCommit(c)))
	}
	return frames(seq, append(bodies, nil)...)
}

// pairFile is a file of a pair, with these bodies behind its first one.
func pairFile(p api.Pair, bodies ...[]byte) []byte {
	b := []byte("P")
	for _, x := range []int64{int64(p.Number), p.From, p.To, int64(len(bodies))} {
		b = num.Put(b, uint64(x))
	}
	return frames(0, append([][]byte{b}, bodies...)...)
}

func dataFile(p api.Pair, list ...api.Row) []byte {
	var bodies [][]byte
	for _, r := range list {
		bodies = append(bodies, must(record.PutRow(r)))
	}
	return pairFile(p, bodies...)
}

func deltaFile(p api.Pair, list ...api.Gone) []byte {
	var bodies [][]byte
	for _, g := range list {
		bodies = append(bodies, must(record.PutGone(g)))
	}
	return pairFile(p, bodies...)
}

func manifestFile(m api.Manifest) []byte { return frames(0, must(record.PutManifest(m))) }

// files is a disk with these files' bytes, all of it synced.
func files(has map[string][]byte) *disk.Disk {
	d := disk.New()
	for name, b := range has {
		if e := d.Append(name, b); e != api.OK {
			panic(fmt.Sprint(name, e))
		}
	}
	return copied(d)
}

// copied is a disk with the same files, all of it synced.
func copied(d *disk.Disk) *disk.Disk { return d.Crash(api.Fate{Keep: lots, Dirs: lots}) }

// some is what a disk has: a manifest of two pairs up to 12, the log from its third segment on.
func some() map[string][]byte {
	m := manifest(3, 9, 12)
	return map[string][]byte{
		"manifest": manifestFile(m),
		"data-1":   dataFile(m.Pairs[0], row("a", "x", 5), row("b", "y", 6)),
		"delta-1":  deltaFile(m.Pairs[0]),
		"data-2":   dataFile(m.Pairs[1], row("a", "z", 10), row("d", "", 12)),
		"delta-2":  deltaFile(m.Pairs[1], api.Gone{Key: "a", Time: 5}),
		"log-3":    segment(3, 40, commit(11, gone("b")), commit(14, gone("a"), set("c", "v")), commit(13, set("a", "w"))),
		"log-4":    segment(4, 45, commit(12, gone("a")), commit(20, set("b", "u"), gone("q"))),
	}
}

// someState is what the disk of some tells.
func someState() reload.State {
	return reload.State{
		Manifest: manifest(3, 9, 12),
		Base:     rows(row("a", "z", 10), row("b", "y", 6), row("d", "", 12)),
		Rows:     rows(row("b", "u", 20), row("c", "v", 14), row("d", "", 12)),
		Times:    []int64{13, 14, 20},
		Time:     20,
	}
}

func with(has map[string][]byte, name string, b []byte) map[string][]byte {
	has[name] = b
	return has
}

func without(has map[string][]byte, names ...string) map[string][]byte {
	for _, name := range names {
		delete(has, name)
	}
	return has
}

// turned is bytes with one of them another one.
func turned(b []byte, at int) []byte {
	b = slices.Clone(b)
	b[at] ^= 1
	return b
}

// filled has so many files more that there is room for none.
func filled(has map[string][]byte) map[string][]byte {
	for i := 0; len(has) < api.MaxFiles; i++ {
		has[fmt.Sprint("x", i)] = nil
	}
	return has
}

func sameManifests(a, b api.Manifest) bool {
	return a.Time == b.Time && a.Log == b.Log && slices.Equal(a.Pairs, b.Pairs)
}

func sameStates(a, b reload.State) bool {
	return sameManifests(a.Manifest, b.Manifest) && slices.Equal(a.Rows, b.Rows) && slices.Equal(a.Base, b.Base) && slices.Equal(a.Times, b.Times) && a.Time == b.Time
}

// opens: Open of a disk tells this state, and has begun one segment, of this number.
func opens(t *testing.T, what string, d *disk.Disk, want reload.State, begun int) *wal.Log {
	t.Helper()
	ops, names := d.Ops(), d.Names()
	got, l, e := reload.Open(d)
	if e != api.OK || l == nil || !sameStates(got, want) {
		t.Fatalf("%s: Open: %s, %v; want %s", what, told(got), e, told(want))
	}
	names = append(names, wal.Name(begun))
	slices.Sort(names)
	if d.Ops() != ops+3 || !slices.Equal(d.Names(), names) {
		t.Fatalf("%s: %d operations, then %d, and the files %v", what, ops, d.Ops(), d.Names())
	}
	return l
}

// refusesOpen: Open of a disk answers this error, and nothing else.
func refusesOpen(t *testing.T, what string, d *disk.Disk, want api.Errno) {
	t.Helper()
	s, l, e := reload.Open(d)
	if e != want || l != nil || !reflect.DeepEqual(s, reload.State{}) {
		t.Errorf("%s: Open: %s, %v, %v; want %v", what, told(s), l, e, want)
	}
}

// lies is all that a disk has.
func lies(d *disk.Disk) map[string]string {
	out := map[string]string{}
	d = copied(d) // it has power
	for _, name := range d.Names() {
		b, _ := d.Read(name)
		out[name] = string(b)
	}
	return out
}

// refusesAsItWas: Open of a disk answers this error, and the disk is as it was.
func refusesAsItWas(t *testing.T, what string, d *disk.Disk, want api.Errno) {
	t.Helper()
	for range 2 {
		ops, had := d.Ops(), lies(d)
		refusesOpen(t, what, d, want)
		if d.Ops() != ops || !reflect.DeepEqual(lies(d), had) {
			t.Errorf("%s: the disk has %d operations, and the files %v", what, d.Ops()-ops, d.Names())
		}
	}
}

// replays: Replay tells these rows and this time.
func replays(t *testing.T, what string, list []api.Row, from int64, l []api.Commit, at int64, want ...api.Row) {
	t.Helper()
	got, time, e := reload.Replay(list, from, l)
	if e != api.OK || time != at || !slices.Equal(got, want) {
		t.Errorf("%s: Replay: %s, %d, %v; want %s, %d", what, told(got), time, e, told(want), at)
	}
}

func refusesReplay(t *testing.T, what string, list []api.Row, from int64, l []api.Commit) {
	t.Helper()
	got, time, e := reload.Replay(list, from, l)
	if e != api.ErrReloadCorrupt || time != 0 || len(got) != 0 {
		t.Errorf("%s: Replay: %s, %d, %v", what, told(got), time, e)
	}
}

// The examples of the chapter.

func TestExamples(t *testing.T) {
	replays(t, "the first", rows(row("a", "x", 1)), 1, commits(
		commit(5, gone("b"), set("c", "z")), commit(3, gone("a"), set("b", "y")), commit(1, set("d", "w")),
	), 5, row("c", "z", 5))
	refusesReplay(t, "two of one Time", nil, 0, commits(commit(2, set("a", "x")), commit(2, set("b", "x"))))
	refusesReplay(t, "two rows of a", rows(row("a", "x", 1), row("a", "y", 2)), 0, nil)
	d := disk.New()
	opens(t, "a new disk", d, reload.State{Manifest: manifest(1)}, 1)
	refusesAsItWas(t, "no log-2", files(map[string][]byte{"manifest": manifestFile(manifest(2))}), api.ErrReloadCorrupt)
	has := map[string][]byte{"manifest": manifestFile(manifest(2)), "log-2": segment(2, 0)}
	opens(t, "log-2 is there", files(has), reload.State{Manifest: manifest(2)}, 3)
	refusesAsItWas(t, "a byte turned", files(with(has, "manifest", turned(has["manifest"], 20))), api.ErrReloadCorrupt)
}

// P16.1: what Replay tells.

func TestReplay(t *testing.T) {
	key, val := strings.Repeat("k", api.MaxKey), strings.Repeat("v", api.MaxValue)
	two := rows(row("a", "x", 1), row("b", "y", 2))
	replays(t, "nothing", nil, 0, nil, 0)
	replays(t, "rows alone", two, 7, nil, 7, two...)
	replays(t, "empty lists", rows(), 7, commits(), 7)
	replays(t, "commits alone", nil, 0, commits(commit(3, set("b", "y"), set("c", "")), commit(4, set("a", "x"))), 4,
		row("a", "x", 4), row("b", "y", 3), row("c", "", 3))
	replays(t, "another value", two, 2, commits(commit(3, set("a", "z"))), 3, row("a", "z", 3), row("b", "y", 2))
	replays(t, "the same value", two, 2, commits(commit(3, set("a", "x"))), 3, row("a", "x", 3), row("b", "y", 2))
	replays(t, "gone", two, 2, commits(commit(3, gone("a"))), 3, row("b", "y", 2))
	replays(t, "all gone", two, 2, commits(commit(3, gone("a"), gone("b"))), 3)
	replays(t, "gone, and never there", two, 2, commits(commit(3, gone("c"))), 3, two...)
	replays(t, "gone and back", two, 2, commits(commit(3, gone("a")), commit(4, set("a", "z"))), 4, row("a", "z", 4), row("b", "y", 2))
	replays(t, "back and gone", two, 2, commits(commit(4, gone("a")), commit(3, set("a", "z"))), 4, row("b", "y", 2))
	replays(t, "in the order of their Times", nil, 0, commits(commit(9, set("a", "9")), commit(7, set("a", "7")), commit(8, gone("a"))), 9, row("a", "9", 9))
	replays(t, "a commit without Writes", two, 2, commits(commit(5), commit(3, gone("a"))), 5, row("b", "y", 2))
	replays(t, "keys of bytes", rows(row("\x00", "", 0), row("\x00\x00", "", 0), row("\xff", "", 0)), 0,
		commits(commit(1, set("\x00\xff", "z"), set("\x7f", "y"))), 1,
		row("\x00", "", 0), row("\x00\x00", "", 0), row("\x00\xff", "z", 1), row("\x7f", "y", 1), row("\xff", "", 0))
	replays(t, "the longest and the last", rows(row(key, val, lastTime)), 0, commits(commit(lastTime, set("a", val), set(key, val))), lastTime,
		row("a", val, lastTime), row(key, val, lastTime))
}

// Those at or below from are left out, whatever from is.
func TestReplayFrom(t *testing.T) {
	l := commits(commit(6, set("c", "6")), commit(4, set("a", "4")), commit(0, set("z", "0")), commit(5, set("b", "5")))
	base := rows(row("m", "", 99)) // a row may be younger than from: it stays
	for from, want := range map[int64][]api.Row{
		3: rows(row("a", "4", 4), row("b", "5", 5), row("c", "6", 6), base[0]),
		4: rows(row("b", "5", 5), row("c", "6", 6), base[0]),
		5: rows(row("c", "6", 6), base[0]),
	} {
		replays(t, fmt.Sprint("from ", from), base, from, l, 6, want...)
	}
	all := rows(row("a", "4", 4), row("b", "5", 5), row("c", "6", 6), base[0], row("z", "0", 0))
	replays(t, "0 is above", base, -1, l, 6, all...)
	replays(t, "the least", base, math.MinInt64, l, 6, all...)
	replays(t, "the least, of none", base, math.MinInt64, nil, math.MinInt64, base...)
	for _, from := range []int64{6, 7, lastTime, lastTime + 1, math.MaxInt64} {
		replays(t, fmt.Sprint("from ", from), base, from, l, from, base...)
	}
	replays(t, "0 alone", nil, -1, commits(commit(0, set("a", "x"))), 0, row("a", "x", 0))
	replays(t, "0 left out", nil, 0, commits(commit(0, set("a", "x"))), 0)
	replays(t, "one that stays of the rows", rows(row("a", "x", 5)), 9, commits(commit(5, gone("a"))), 9, row("a", "x", 5))
}

// Rows may be as many as they like.
func TestReplayMany(t *testing.T) {
	var list, want []api.Row
	var l []api.Commit
	for i := range 3 * api.MaxRows {
		r := row(fmt.Sprintf("k%06d", i), "x", 1)
		list = append(list, r)
		if i%3 == 0 {
			r.Time, r.Val = int64(2+i), "y"
			l = append(l, commit(r.Time, set(r.Key, r.Val)))
		}
		want = append(want, r)
	}
	slices.Reverse(l)
	replays(t, "many", list, 1, l, l[0].Time, want...)
}

func wrongRows() map[string][]api.Row {
	return map[string][]api.Row{
		"no key":             rows(row("", "x", 1)),
		"too long a key":     rows(row(strings.Repeat("k", api.MaxKey+1), "x", 1)),
		"too long a value":   rows(row("a", strings.Repeat("v", api.MaxValue+1), 1)),
		"below 0":            rows(row("a", "x", -1)),
		"the least time":     rows(row("a", "x", math.MinInt64)),
		"no time":            rows(row("a", "x", lastTime+1)),
		"the last one":       rows(row("a", "x", 1), row("b", "x", lastTime+1)),
		"twice":              rows(row("a", "x", 1), row("a", "x", 1)),
		"twice, later":       rows(row("a", "x", 1), row("a", "x", 2)),
		"falling":            rows(row("b", "x", 1), row("a", "x", 1)),
		"falling at the end": rows(row("a", "x", 1), row("c", "x", 1), row("b", "x", 1)),
		"twice, not in turn": rows(row("a", "x", 1), row("c", "x", 1), row("a", "x", 1)),
	}
}

func wrongCommits() map[string]api.Commit {
	var many, most []api.Write
	for i := range api.MaxWrites + 1 {
		many = append(many, set(fmt.Sprintf("k%02d", i), ""))
	}
	most = many[:api.MaxWrites]
	return map[string]api.Commit{
		"below 0":            commit(-1, set("a", "x")),
		"the least time":     commit(math.MinInt64),
		"no time":            commit(lastTime+1, set("a", "x")),
		"the greatest time":  commit(math.MaxInt64),
		"too many Writes":    commit(5, many...),
		"most, one twice":    commit(5, append(slices.Clone(most[:63]), most[62])...),
		"no key":             commit(5, set("", "x")),
		"no key that goes":   commit(5, gone("")),
		"too long a key":     commit(5, set(strings.Repeat("k", api.MaxKey+1), "x")),
		"too long a value":   commit(5, set("a", strings.Repeat("v", api.MaxValue+1))),
		"gone with a value":  commit(5, api.Write{Key: "a", Val: "x", Gone: true}),
		"falling":            commit(5, set("b", "x"), set("a", "x")),
		"twice":              commit(5, set("a", "x"), gone("a")),
		"twice, not in turn": commit(5, set("a", "x"), set("b", "x"), set("a", "x")),
	}
}

// P16.1: what Replay refuses.
func TestReplayRefuses(t *testing.T) {
	for what, list := range wrongRows() {
		for _, from := range []int64{math.MinInt64, -1, 0, 5, lastTime, math.MaxInt64} {
			refusesReplay(t, what, list, from, nil)
			refusesReplay(t, what, list, from, commits(commit(5, gone("a"))))
		}
	}
	fine := commit(6, set("a", "x"))
	for what, c := range wrongCommits() {
		// Those that would be left out must be right, too.
		for _, from := range []int64{math.MinInt64, -2, 0, 4, 5, 6, lastTime, math.MaxInt64} {
			refusesReplay(t, what, nil, from, commits(c))
			refusesReplay(t, what, rows(row("a", "x", 1)), from, commits(fine, c))
			refusesReplay(t, what, nil, from, commits(c, fine))
			refusesReplay(t, what, nil, from, commits(fine, c, commit(7)))
		}
	}
	var most []api.Write
	for i := range api.MaxWrites {
		most = append(most, gone(fmt.Sprintf("k%02d", i)))
	}
	replays(t, "as many Writes as there may be", rows(row("k", "", 0), row("k63", "x", 1)), 1, commits(commit(2, most...)), 2, row("k", "", 0))
}

// Two of one Time are refused above from alone, wherever they stand, whatever they do.
func TestReplayOneTime(t *testing.T) {
	a, b := commit(5, set("a", "x")), commit(5, set("b", "x"))
	for what, l := range map[string][]api.Commit{
		"side by side":   commits(a, b),
		"the same":       commits(a, a),
		"without Writes": commits(commit(5), commit(5)),
		"far apart":      commits(a, commit(9), commit(7), commit(6), b),
		"between":        commits(commit(9), a, commit(3), b, commit(7)),
		"three":          commits(a, b, a),
	} {
		for _, from := range []int64{math.MinInt64, 0, 4} {
			refusesReplay(t, what, nil, from, l)
		}
		if _, _, e := reload.Replay(nil, 5, l); e != api.OK {
			t.Errorf("%s, at from: %v", what, e)
		}
	}
	replays(t, "those at from", nil, 5, commits(a, commit(7, set("c", "")), b), 7, row("c", "", 7))
	replays(t, "those below from", nil, 6, commits(a, b), 6)
	refusesReplay(t, "of 0", nil, -1, commits(commit(0), commit(0)))
	replays(t, "of 0, at from", nil, 0, commits(commit(0), commit(0)), 0)
}

// R3: what is handed in is not changed nor kept, what is answered is new memory.
func TestReplayMemory(t *testing.T) {
	list := append(make([]api.Row, 0, 8), row("a", "x", 1), row("b", "y", 2))
	l := append(make([]api.Commit, 0, 8),
		commit(5, append(make([]api.Write, 0, 4), set("c", "z"))...), commit(3, gone("b")), commit(4, set("d", "w")), commit(1, set("a", "q")))
	wantRows, wantCommits := slices.Clone(list[:8]), slices.Clone(l[:8])
	got, _, _ := reload.Replay(list, 2, l)
	again, _, _ := reload.Replay(list, 2, l)
	got = got[:cap(got)]
	for i := range got {
		got[i] = row("q", "q", 77)
	}
	if !slices.Equal(list[:8], wantRows) || !reflect.DeepEqual(l[:8], wantCommits) {
		t.Error("Replay has changed what it was handed")
	}
	if want := rows(row("a", "x", 1), row("c", "z", 5), row("d", "w", 4)); !slices.Equal(again, want) {
		t.Errorf("two answers share memory: %v", again)
	}
	same, _, _ := reload.Replay(list, 9, nil)
	same[0].Key = "q"
	if list[0].Key != "a" {
		t.Error("Replay answers what it was handed")
	}
}
