package wal_test

import (
	"bytes"
	"fmt"
	"math"
	"reflect"
	"slices"
	"strings"
	"testing"
	"time"

	"varve/api"
	"varve/disk"
	"varve/frame"
	"varve/num"
	"varve/record"
	"varve/wal"
)

const (
	lots      = 1 << 20 // more than any file here has bytes, or any directory operations
	mostFirst = 1 << 30
	mostAsked = mostFirst + 65536
)

func told(x any) string {
	s := fmt.Sprintf("%+v", x)
	return s[:min(len(s), 300)]
}

// right is a right commit of a Time, with one Write.
func right(at int64) api.Commit {
	return api.Commit{Time: at, Writes: []api.Write{{Key: "k", Val: "v"}}}
}

// long is a right commit whose frame has many blocks.
func long(at int64) api.Commit {
	return api.Commit{Time: at, Writes: []api.Write{
		{Key: "a", Val: strings.Repeat("x", api.MaxValue)},
		{Key: "b", Gone: true},
		{Key: strings.Repeat("c", api.MaxKey)},
	}}
}

func rights(from, to int64) []api.Commit {
	var out []api.Commit
	for at := from; at <= to; at++ {
		out = append(out, right(at))
	}
	return out
}

func body(c api.Commit) []byte {
	b, e := record.PutCommit(c)
	if e != api.OK {
		panic(e)
	}
	return b
}

func first(segment int) []byte { return num.Put([]byte("L"), uint64(segment)) }

// frames are the bodies' frames, one behind the other, numbered from seq on.
func frames(seq uint64, bodies ...[]byte) []byte {
	var b []byte
	for i, x := range bodies {
		var e api.Errno
		if b, e = frame.Put(b, seq+uint64(i), x); e != api.OK {
			panic(e)
		}
	}
	return b
}

// files is a disk with these files' bytes, all of it synced.
func files(has map[string][]byte) *disk.Disk {
	d := disk.New()
	for name, b := range has {
		d.Append(name, b)
		d.Sync(name)
	}
	d.SyncDir()
	return copied(d)
}

// copied is a disk with the same files, all of it synced.
func copied(d *disk.Disk) *disk.Disk { return d.Crash(api.Fate{Keep: lots, Dirs: lots}) }

func off(d *disk.Disk) *disk.Disk {
	d.CutAt(0)
	d.SyncDir()
	return d
}

// shown is all that can be told of a disk without a change: its files, and what crashes leave of them.
func shown(d *disk.Disk) map[string]string {
	out := map[string]string{"ops": fmt.Sprint(d.Ops()), "now": fmt.Sprint(d.Names())}
	for dirs := 0; dirs < 5; dirs++ {
		for _, keep := range []int{0, lots} {
			left := d.Crash(api.Fate{Keep: keep, Dirs: dirs})
			for _, name := range left.Names() {
				b, _ := left.Read(name)
				out[fmt.Sprint(dirs, keep, name)] = string(b)
			}
		}
	}
	return out
}

// sameDisks: the same files, and as much of them is synced.
func sameDisks(t *testing.T, what string, got, want *disk.Disk) {
	t.Helper()
	a, b := shown(got), shown(want)
	if reflect.DeepEqual(a, b) {
		return
	}
	for k := range b {
		if a[k] != b[k] {
			t.Fatalf("%s: the disk's %s: %q, not %q", what, k, a[k], b[k])
		}
	}
	t.Fatalf("%s: the disk has %v, not %v", what, got.Names(), want.Names())
}

func sameCommits(a, b []api.Commit) bool {
	return slices.EqualFunc(a, b, func(x, y api.Commit) bool { return x.Time == y.Time && slices.Equal(x.Writes, y.Writes) })
}

func open(t *testing.T, d *disk.Disk, first int) (*wal.Log, []api.Commit) {
	t.Helper()
	l, commits, e := wal.Open(d, first)
	if e != api.OK || l == nil {
		t.Fatalf("Open(%v, %d): %v", d.Names(), first, e)
	}
	return l, commits
}

// opens: Open tells these commits, and begins this segment.
func opens(t *testing.T, what string, d *disk.Disk, first int, want []api.Commit, begun int, seq uint64) *wal.Log {
	t.Helper()
	shadow := copied(d)
	l, commits, e := wal.Open(d, first)
	if e != api.OK || l == nil || !sameCommits(commits, want) {
		t.Fatalf("%s: Open(.., %d): %s, %v, not %s", what, first, told(commits), e, told(want))
	}
	before := shadow.Names()
	if slices.Contains(before, wal.Name(begun)) {
		t.Fatalf("%s: %s was there", what, wal.Name(begun))
	}
	if got, _ := d.Read(wal.Name(begun)); !bytes.Equal(got, frames(seq, num.Put([]byte("L"), uint64(begun)))) {
		t.Fatalf("%s: %s has %x", what, wal.Name(begun), got)
	}
	if len(d.Names()) != len(before)+1 {
		t.Fatalf("%s: %v, not one more than %v", what, d.Names(), before)
	}
	return l
}

// refusesOpen: Open answers this error, nothing beside it, and the disk is as it was.
func refusesOpen(t *testing.T, what string, d *disk.Disk, first int, want api.Errno) {
	t.Helper()
	shadow := map[string]string{}
	if d != nil {
		shadow = shown(d)
	}
	l, commits, e := wal.Open(d, first)
	if e != want || l != nil || len(commits) != 0 {
		t.Fatalf("%s: Open(.., %d): %v, %s, %v, not %v", what, first, l, told(commits), e, want)
	}
	if d != nil && !reflect.DeepEqual(shown(d), shadow) {
		t.Fatalf("%s: Open(.., %d) has answered %v, and changed the disk", what, first, e)
	}
}

func puts(t *testing.T, l *wal.Log, commits ...api.Commit) {
	t.Helper()
	for _, c := range commits {
		if n, e := l.Put(c); e != api.OK || n < 1 {
			t.Fatalf("Put(%s): %d, %v", told(c), n, e)
		}
	}
}

func ticket(t *testing.T, l *wal.Log, c api.Commit, want int) {
	t.Helper()
	if n, e := l.Put(c); n != want || e != api.OK {
		t.Fatalf("Put(%s): %d, %v, not %d", told(c), n, e, want)
	}
}

func flush(t *testing.T, l *wal.Log, want bool, flushed int) {
	t.Helper()
	if done, e := l.Flush(); done != want || e != api.OK {
		t.Fatalf("Flush: %v, %v, not %v", done, e, want)
	}
	if n := l.Flushed(); n != flushed {
		t.Fatalf("Flushed: %d, not %d", n, flushed)
	}
}

func flushAll(t *testing.T, l *wal.Log) {
	t.Helper()
	for {
		done, e := l.Flush()
		if e != api.OK {
			t.Fatal(e)
		}
		if done {
			return
		}
	}
}

func rotates(t *testing.T, l *wal.Log, want int) {
	t.Helper()
	if n, e := l.Rotate(); n != want || e != api.OK {
		t.Fatalf("Rotate: %d, %v, not %d", n, e, want)
	}
}

func drops(t *testing.T, l *wal.Log, first int, want bool) {
	t.Helper()
	if done, e := l.Drop(first); done != want || e != api.OK {
		t.Fatalf("Drop(%d): %v, %v, not %v", first, done, e, want)
	}
}

// isOver: all calls but Flushed answer the error, and do nothing.
func isOver(t *testing.T, d *disk.Disk, l *wal.Log, want api.Errno, flushed int) {
	t.Helper()
	d.CutAt(-1) // power that is back changes nothing
	before := shown(d)
	for range 2 {
		if n, e := l.Put(right(1)); n != 0 || e != want {
			t.Fatalf("Put: %d, %v, not %v", n, e, want)
		}
		if n, e := l.Put(api.Commit{Time: -1}); n != 0 || e != want {
			t.Fatalf("Put of what is not right: %d, %v, not %v", n, e, want)
		}
		if done, e := l.Flush(); done || e != want {
			t.Fatalf("Flush: %v, %v, not %v", done, e, want)
		}
		if n, e := l.Rotate(); n != 0 || e != want {
			t.Fatalf("Rotate: %d, %v, not %v", n, e, want)
		}
		for _, first := range []int{-1, 0, 1, 2, 1000} {
			if done, e := l.Drop(first); done || e != want {
				t.Fatalf("Drop(%d): %v, %v, not %v", first, done, e, want)
			}
		}
		if n := l.Flushed(); n != flushed {
			t.Fatalf("Flushed: %d, not %d", n, flushed)
		}
	}
	if !reflect.DeepEqual(before, shown(d)) {
		t.Fatal("a log that is over has changed its disk")
	}
}

func TestExamples(t *testing.T) {
	c, d := right(7), disk.New()
	l, had := open(t, d, 1)
	if len(had) != 0 || !slices.Equal(d.Names(), []string{"log-1"}) || d.Ops() != 3 {
		t.Fatal(had, d.Names(), d.Ops())
	}
	ticket(t, l, c, 1)
	ticket(t, l, c, 2)
	for range 3 {
		flush(t, l, false, 0)
	}
	flush(t, l, true, 2)
	rotates(t, l, 2)
	l, had = open(t, d, 1)
	if !sameCommits(had, []api.Commit{c, c}) || !slices.Equal(d.Names(), []string{"log-1", "log-2", "log-3"}) {
		t.Fatal(had, d.Names())
	}
	drops(t, l, 3, false)
	drops(t, l, 3, true)
	if done, e := l.Drop(4); done || e != api.ErrArg {
		t.Fatal(done, e)
	}
	refusesOpen(t, "first 0", d, 0, api.ErrArg)
	if !slices.Equal(d.Names(), []string{"log-3"}) {
		t.Fatal(d.Names())
	}
	refusesOpen(t, "log-3 alone", d, 1, api.ErrWalCorrupt)
	opens(t, "log-3 alone", d, 3, nil, 4, 6)
}

// P8.1
func TestName(t *testing.T) {
	for segment, want := range map[int]string{
		0: "log-0", 1: "log-1", 9: "log-9", 10: "log-10", 1000: "log-1000",
		math.MaxInt32: "log-2147483647", mostAsked: "log-1073807360",
		-1: "log--1", -10: "log--10", math.MinInt32: "log--2147483648",
		math.MaxInt64: "log-9223372036854775807", math.MinInt64: "log--9223372036854775808",
	} {
		if got := wal.Name(segment); got != want {
			t.Errorf("Name(%d): %q, not %q", segment, got, want)
		}
	}
}

// P8.2: the errors, and their order.
func TestOpenRefuses(t *testing.T) {
	wrong := []int{math.MinInt64, math.MinInt32, -1, 0, mostFirst + 1, mostAsked, math.MaxInt32, math.MaxInt64}
	gap := func() *disk.Disk { return files(map[string][]byte{"log-3": frames(0, first(3))}) }
	for _, n := range append(wrong, 1, 2, mostFirst) {
		refusesOpen(t, "nil", nil, n, api.ErrNil)
	}
	for _, n := range wrong {
		refusesOpen(t, "new", disk.New(), n, api.ErrArg)
		refusesOpen(t, "gap", gap(), n, api.ErrArg)
		refusesOpen(t, "off", off(disk.New()), n, api.ErrArg)
	}
	for _, n := range []int{1, 2, 3, mostFirst} {
		refusesOpen(t, "off", off(disk.New()), n, api.ErrDiskOff)
		refusesOpen(t, "off with a gap", off(gap()), n, api.ErrDiskOff)
		refusesOpen(t, "off with what is corrupt", off(files(map[string][]byte{wal.Name(n): frames(0, first(9))})), n, api.ErrDiskOff)
	}
	for _, n := range []int{1, 2} {
		refusesOpen(t, "gap", gap(), n, api.ErrWalCorrupt)
		d := gap()
		d.CutAt(0) // the power goes at an operation, and what is corrupt is found ahead of one
		refusesOpen(t, "gap, about to be off", d, n, api.ErrWalCorrupt)
	}
	for _, n := range []int{1, 9, 10, 1000, mostFirst - 1, mostFirst} {
		opens(t, "new", disk.New(), n, nil, n, 0)
	}
	d := disk.New()
	d.CutAt(0)
	refusesOpen(t, "about to be off", d, 1, api.ErrDiskOff)
	opens(t, "on again", copied(d), 1, nil, 1, 0)
}

// P8.2: which segments must be there.
func TestOpenGaps(t *testing.T) {
	with := func(names ...string) *disk.Disk {
		has := map[string][]byte{}
		for _, s := range names {
			has[s] = nil
		}
		return files(has)
	}
	segments := func(numbers ...int) *disk.Disk {
		has := map[string][]byte{}
		for _, n := range numbers {
			has[wal.Name(n)] = nil
		}
		return files(has)
	}
	for _, c := range []struct {
		name  string
		d     *disk.Disk
		first int
		begun int // 0: ErrWalCorrupt
	}{
		{"all there", segments(1, 2, 3), 1, 4},
		{"one missing between", segments(1, 3), 1, 0},
		{"two missing between", segments(1, 4), 1, 0},
		{"first missing", segments(2), 1, 0},
		{"first missing, two behind it", segments(2, 3), 1, 0},
		{"the one behind first missing", segments(5, 7, 8), 5, 0},
		{"far away", segments(1, 1000), 1, 0},
		{"below first alone", segments(1, 2, 4), 5, 5},
		{"a gap below first", segments(1, 3, 4, 5), 3, 6},
		{"right below first missing", segments(1, 3), 3, 4},
		{"right below first there, first not", segments(1, 2), 3, 3},
		{"below and above first, first not", segments(2, 4), 3, 0},
		{"log-10 behind log-9", segments(8, 9, 10, 11), 8, 12},
		{"log-10 without log-9", segments(8, 10), 8, 0},
		{"up to the last that is asked", segments(1, mostAsked), 1, 0},
		{"the last two that are asked", segments(mostAsked-1, mostAsked), 1, 0},
		{"above those that are asked", segments(1, mostAsked+1), 1, 2},
		{"above them, first not there", segments(mostAsked + 1), 1, 1},
		{"above them, behind one another", segments(1, mostAsked+1, mostAsked+2, mostAsked+9), 1, 2},
		{"the greatest one", segments(1, math.MaxInt32), 1, 2},
		{"a number that none has", with("log-1", "log-99999999999"), 1, 2},
		{"the last first one", segments(mostFirst, mostFirst+1, mostFirst+2), mostFirst, mostFirst + 3},
		{"one missing above the last first one", segments(mostFirst, mostFirst+2), mostFirst, 0},
		{"the last first one, up to the last that is asked", segments(mostFirst, mostAsked), mostFirst, 0},
		{"the last first one, above that", segments(mostFirst, mostAsked+1), mostFirst, mostFirst + 1},
		{"names that are none", with("log-1", "log-03", "log-", "log", "log--3", "Log-3", "log-3.", "log-3a", "xlog-3", "log-0", "log-log-3", "3", "log-0x3", "log.3", "manifest"), 1, 2},
		{"noughts ahead", with("log-01"), 1, 1},
	} {
		if c.begun == 0 {
			refusesOpen(t, c.name, c.d, c.first, api.ErrWalCorrupt)
			continue
		}
		opens(t, c.name, c.d, c.first, nil, c.begun, 0)
	}
}

// P8.2: what bytes of one segment tell. Each is asked as log-1 alone, and with what is behind it.
func TestOpenReads(t *testing.T) {
	c, d := body(right(5)), body(long(6))
	seal := []byte{}
	all := frames(0, first(1), c, d, seal)
	for _, x := range []struct {
		name string
		b    []byte
		want []api.Commit
		seq  uint64 // of the segment that is begun
	}{
		{"empty", nil, nil, 0},
		{"noughts", make([]byte, 320), nil, 0},
		{"short noughts", make([]byte, 7), nil, 0},
		{"a first frame", frames(0, first(1)), nil, 1},
		{"a commit", frames(0, first(1), c), []api.Commit{right(5)}, 2},
		{"a seal", frames(0, first(1), seal), nil, 2},
		{"seals", frames(0, first(1), seal, seal, seal), nil, 4},
		{"commits and seals", frames(0, first(1), seal, c, seal, d, c, seal), []api.Commit{right(5), long(6), right(5)}, 7},
		{"Times that fall", frames(0, first(1), d, c), []api.Commit{long(6), right(5)}, 3},
		{"a commit of none", frames(0, first(1), body(api.Commit{})), []api.Commit{{}}, 2},
		{"all", all, []api.Commit{right(5), long(6)}, 4},
		{"torn in the seal", all[:len(all)-1], []api.Commit{right(5), long(6)}, 3},
		{"torn in a commit", all[:len(all)-33], []api.Commit{right(5)}, 2},
		{"torn in the first frame", all[:31], nil, 0},
		{"of a first frame a byte", all[:1], nil, 0},
		{"turned at the end", turned(all, len(all)-3, len(all)), []api.Commit{right(5), long(6)}, 3},
		{"turned from a commit on", turned(all, 70, len(all)), []api.Commit{right(5)}, 2},
		{"turned all", turned(all, 0, len(all)), nil, 0},
		{"another number ahead", frames(17, first(1), c, seal), []api.Commit{right(5)}, 20},
		{"numbers that go round", frames(math.MaxUint64, first(1), c, seal), []api.Commit{right(5)}, 2},
		{"numbers that go round behind it", frames(math.MaxUint64-2, first(1), c, seal), []api.Commit{right(5)}, 0},
		{"a lesser number behind", append(frames(17, first(1), c), frames(3, seal)...), []api.Commit{right(5)}, 19},
	} {
		opens(t, x.name, files(map[string][]byte{"log-1": x.b}), 1, x.want, 2, x.seq)
		behind := map[string][]byte{"log-1": x.b, "log-2": frames(x.seq, first(2), d)}
		opens(t, x.name+", and another behind it", files(behind), 1, append(slices.Clone(x.want), long(6)), 3, x.seq+2)
		ahead := map[string][]byte{"log-1": x.b, "log-2": frames(40, first(2), d)}
		opens(t, x.name+", ahead of first", files(ahead), 2, []api.Commit{long(6)}, 3, 42)
	}
}

func turned(b []byte, from, to int) []byte {
	b = slices.Clone(b)
	for i := from; i < to; i++ {
		b[i] ^= 255
	}
	return b
}

// P8.2: what no crash leaves.
func TestOpenCorrupt(t *testing.T) {
	c, seal := body(right(5)), []byte{}
	all := frames(0, first(1), c, seal)
	unread := body(api.Commit{Time: 1, Writes: []api.Write{{Key: "a"}, {Key: "b"}}})
	unread = bytes.Replace(unread, []byte("a"), []byte("b"), 1) // two of one key: read, but not right
	row, _ := record.PutRow(api.Row{Key: "k", Val: "v", Time: 1})
	gone, _ := record.PutGone(api.Gone{Key: "k", Time: 1})
	manifest, _ := record.PutManifest(api.Manifest{Log: 1})
	for name, b := range map[string][]byte{
		"no first frame, and one behind it":   turned(all, 0, 1),
		"the first frame torn":                turned(all, 3, 5),
		"corrupt in the middle":               turned(all, 40, 41),
		"noughts in the middle":               append(append(frames(0, first(1)), make([]byte, 32)...), frames(1, c)...),
		"a number is left out":                append(frames(0, first(1)), frames(2, c)...),
		"a number comes too early":            slices.Concat(frames(0, first(1), c), frames(1, c), frames(2, c)),
		"another segment's first frame":       frames(0, first(2), c),
		"that of 0":                           frames(0, first(0), c),
		"a first frame with one byte more":    frames(0, append(first(1), 0), c),
		"a first frame of the kind alone":     frames(0, []byte("L"), c),
		"a first frame of another kind":       frames(0, []byte("l\x01"), c),
		"a first frame with a longer number":  frames(0, []byte("L\x81\x00"), c),
		"a seal in its place":                 frames(0, seal, c),
		"a seal in its place alone":           frames(0, seal),
		"a commit in its place":               frames(0, c),
		"two first frames":                    frames(0, first(1), first(1)),
		"a first frame behind commits":        frames(0, first(1), c, first(2)),
		"a body that is none":                 frames(0, first(1), []byte{0}),
		"a commit that is cut off":            frames(0, first(1), c[:len(c)-1]),
		"a commit with a byte behind it":      frames(0, first(1), append(slices.Clone(c), 0)),
		"a commit that is read and not right": frames(0, first(1), unread),
		"one behind right ones":               frames(0, first(1), c, seal, unread, seal),
		"a row":                               frames(0, first(1), row),
		"a gone":                              frames(0, first(1), gone),
		"a manifest":                          frames(0, first(1), manifest),
		"long noughts":                        frames(0, first(1), make([]byte, 1000)),
	} {
		refusesOpen(t, name, files(map[string][]byte{"log-1": b}), 1, api.ErrWalCorrupt)
		refusesOpen(t, name+", and one behind it", files(map[string][]byte{"log-1": b, "log-2": nil}), 1, api.ErrWalCorrupt)
		opens(t, name+", below first", files(map[string][]byte{"log-1": b, "log-2": frames(9, first(2))}), 2, nil, 3, 10)
	}
	if _, at, e := record.Commit(unread); e != api.ErrRecordForm {
		t.Fatal(at, e)
	}
}

// P8.2: the number that must come in further segments.
func TestOpenNumbers(t *testing.T) {
	c, seal := body(right(5)), []byte{}
	for _, x := range []struct {
		name string
		b    [][]byte // of log-1, log-2, ..
		want int      // how many commits; below 0: ErrWalCorrupt
		seq  uint64
	}{
		{"one behind the other", [][]byte{frames(0, first(1), c), frames(2, first(2), c), frames(4, first(3), c)}, 3, 6},
		{"from another number on", [][]byte{frames(7, first(1), c), frames(9, first(2), c)}, 2, 11},
		{"0 again", [][]byte{frames(0, first(1), c), frames(0, first(2), c)}, -1, 0},
		{"0 again behind another number", [][]byte{frames(7, first(1), c), frames(0, first(2), c)}, -1, 0},
		{"1 less", [][]byte{frames(7, first(1), c), frames(8, first(2), c)}, -1, 0},
		{"1 more", [][]byte{frames(7, first(1), c), frames(10, first(2), c)}, -1, 0},
		{"1 less, alone", [][]byte{frames(7, first(1), c), frames(8, first(2))}, -1, 0},
		{"1 more, alone", [][]byte{frames(7, first(1), c), frames(10, first(2))}, -1, 0},
		{"none whole in the first one", [][]byte{nil, frames(7, first(2), c), frames(9, first(3), c)}, 2, 11},
		{"none whole in the first two", [][]byte{nil, make([]byte, 64), frames(0, first(3), c)}, 1, 2},
		{"one torn in between", [][]byte{frames(7, first(1), c), frames(9, first(2))[:31], frames(9, first(3), c)}, 2, 11},
		{"one empty in between, and 1 more", [][]byte{frames(7, first(1), c), nil, frames(10, first(3), c)}, -1, 0},
		{"one empty in between, and 0", [][]byte{frames(7, first(1), c), nil, frames(0, first(3), c)}, -1, 0},
		{"a torn end, and the number that was torn", [][]byte{append(frames(0, first(1), c), frames(2, c)[:20]...), frames(2, first(2), seal)}, 1, 4},
		{"a torn end, and the number behind it", [][]byte{append(frames(0, first(1), c), frames(2, c)[:20]...), frames(3, first(2), seal)}, -1, 0},
		{"numbers that go round", [][]byte{frames(math.MaxUint64, first(1)), frames(0, first(2), c)}, 1, 2},
		{"numbers that go round within", [][]byte{frames(math.MaxUint64-1, first(1), c, c), frames(1, first(2), c)}, 3, 3},
		{"corrupt in the second one", [][]byte{frames(0, first(1), c), turned(frames(2, first(2), c, seal), 33, 34)}, -1, 0},
		{"the second one's first frame torn", [][]byte{frames(0, first(1), c), turned(frames(2, first(2), c), 1, 2)}, -1, 0},
		{"the first one's first frame torn, elder ones behind it", [][]byte{frames(9, first(1), c), turned(frames(2, first(2), c), 1, 2)}, 1, 11},
		{"the second one's is the first one's", [][]byte{frames(0, first(1), c), frames(2, first(1), c)}, -1, 0},
		{"the second one's has another body", [][]byte{frames(0, first(1), c), frames(2, c, c)}, -1, 0},
		{"a wrong body in the third one", [][]byte{nil, frames(0, first(2), c), frames(2, first(3), c, []byte("x"))}, -1, 0},
	} {
		has := map[string][]byte{}
		for i, b := range x.b {
			has[wal.Name(i+1)] = b
		}
		if x.want < 0 {
			refusesOpen(t, x.name, files(has), 1, api.ErrWalCorrupt)
			continue
		}
		opens(t, x.name, files(has), 1, slices.Repeat([]api.Commit{right(5)}, x.want), len(x.b)+1, x.seq)
	}
}

// P8.2: commits come in the order in which they stand, over many segments.
func TestOpenOrder(t *testing.T) {
	has, want, seq := map[string][]byte{}, []api.Commit(nil), uint64(3)
	for n := 5; n < 20; n++ {
		bodies := [][]byte{num.Put([]byte("L"), uint64(n))}
		for _, c := range rights(int64(100*n), int64(100*n+n)) {
			want = append(want, c)
			bodies = append(bodies, body(c), nil)
		}
		has[wal.Name(n)] = frames(seq, bodies...)
		seq += uint64(len(bodies))
	}
	opens(t, "many", files(has), 5, want, 20, seq)
	opens(t, "all but the first", files(has), 6, want[6:], 20, seq)
}

// P8.2: which operations begin a segment, and the disk's errors at each of them.
func TestOpenBegins(t *testing.T) {
	old := func() *disk.Disk {
		return files(map[string][]byte{"log-4": frames(0, num.Put([]byte("L"), 4), body(right(1))), "other": []byte("x")})
	}
	ops := []func(d *disk.Disk){
		func(d *disk.Disk) { d.Append("log-5", frames(2, num.Put([]byte("L"), 5))) },
		func(d *disk.Disk) { d.Sync("log-5") },
		func(d *disk.Disk) { d.SyncDir() },
	}
	for done := 0; done <= len(ops); done++ {
		d, want := old(), old()
		for _, op := range ops[:done] {
			op(want)
		}
		d.CutAt(done)
		l, commits, e := wal.Open(d, 4)
		if done < len(ops) && (e != api.ErrDiskOff || l != nil || len(commits) != 0) {
			t.Fatalf("the power goes at %d: %v, %s, %v", done, l, told(commits), e)
		}
		if done == len(ops) && (e != api.OK || l == nil || !sameCommits(commits, rights(1, 1))) {
			t.Fatal(told(commits), e)
		}
		sameDisks(t, fmt.Sprint("Open at ", done), d, want)
	}
}

// P8.2: a disk that is full.
func TestOpenFull(t *testing.T) {
	has := map[string][]byte{}
	for i := range api.MaxFiles {
		has[fmt.Sprint("f", i)] = nil
	}
	d := files(has)
	refusesOpen(t, "64 files", d, 1, api.ErrDiskFull)
	d.Delete("f0")
	l, _ := open(t, d, 1)
	if n, e := l.Rotate(); n != 0 || e != api.ErrDiskFull {
		t.Fatal(n, e)
	}
	isOver(t, d, l, api.ErrDiskFull, 0)
	for left := range 4 {
		d := disk.New()
		for d.Ops() < api.MaxOps-left {
			d.SyncDir()
		}
		l, commits, e := wal.Open(d, 1)
		if left < 3 && (l != nil || len(commits) != 0 || e != api.ErrDiskFull) || left == 3 && (l == nil || e != api.OK) || d.Ops() != api.MaxOps {
			t.Fatalf("%d operations left: %v, %v", left, e, d.Ops())
		}
	}
}

// P8.3
func TestPut(t *testing.T) {
	d := disk.New()
	l, _ := open(t, d, 1)
	before := shown(d)
	many := api.Commit{Time: 3}
	for i := range api.MaxWrites {
		many.Writes = append(many.Writes, api.Write{Key: fmt.Sprintf("k%03d", i), Val: strings.Repeat("v", i)})
	}
	more := api.Commit{Time: 3, Writes: append(slices.Clone(many.Writes), api.Write{Key: "l"})}
	put := []api.Commit{right(5), {}, right(5), {Time: api.MaxTime - 1}, long(0), many, {Writes: []api.Write{{Key: "\x00", Gone: true}}}}
	wrong := []api.Commit{
		{Time: -1}, {Time: math.MinInt64}, {Time: api.MaxTime}, {Time: math.MaxInt64}, more,
		{Writes: []api.Write{{}}},
		{Writes: []api.Write{{Key: strings.Repeat("k", api.MaxKey+1)}}},
		{Writes: []api.Write{{Key: "k", Val: strings.Repeat("v", api.MaxValue+1)}}},
		{Writes: []api.Write{{Key: "k", Val: "v", Gone: true}}},
		{Writes: []api.Write{{Key: "b"}, {Key: "a"}}},
		{Writes: []api.Write{{Key: "a"}, {Key: "a"}}},
	}
	for i, c := range put {
		for _, w := range wrong {
			if n, e := l.Put(w); n != 0 || e != api.ErrWalForm {
				t.Fatalf("Put(%s): %d, %v", told(w), n, e)
			}
		}
		ticket(t, l, c, i+1)
	}
	if !reflect.DeepEqual(before, shown(d)) || l.Flushed() != 0 {
		t.Fatal("Put has changed the disk")
	}
	flushAll(t, l)
	if l.Flushed() != len(put) {
		t.Fatal(l.Flushed())
	}
	ticket(t, l, right(9), len(put)+1)
	opens(t, "what was put", copied(d), 1, put, 2, uint64(len(put)+2))
}

// P8.3, P8.4: Put of what is not right leaves nothing that waits.
func TestPutWrongDoesNotWait(t *testing.T) {
	d := disk.New()
	l, _ := open(t, d, 1)
	if n, e := l.Put(api.Commit{Time: -1}); n != 0 || e != api.ErrWalForm {
		t.Fatal(n, e)
	}
	ops := d.Ops()
	flush(t, l, true, 0)
	if d.Ops() != ops {
		t.Fatal("an operation for nothing")
	}
	// The power matters to those alone who ask the disk for an operation.
	off(d)
	flush(t, l, true, 0)
	ticket(t, l, right(1), 1)
}

// step is an operation of the disk that a call is to do, done by hand on another disk.
type step struct {
	name string
	do   func(d *disk.Disk)
}

func appends(name string, b []byte) step {
	return step{"Append " + name, func(d *disk.Disk) { d.Append(name, b) }}
}

func syncs(name string) step { return step{"Sync " + name, func(d *disk.Disk) { d.Sync(name) }} }

func syncsDir() step { return step{"SyncDir", func(d *disk.Disk) { d.SyncDir() }} }

func group(name string, seq uint64, bodies ...[]byte) []step {
	return []step{
		appends(name, frames(seq, bodies...)),
		syncs(name),
		appends(name, frames(seq+uint64(len(bodies)), nil)),
		syncs(name),
	}
}

func begins(segment int, seq uint64) []step {
	name := wal.Name(segment)
	return []step{appends(name, frames(seq, first(segment))), syncs(name), syncsDir()}
}

func doAll(d *disk.Disk, steps []step) {
	for _, s := range steps {
		s.do(d)
	}
}

// P8.4: each call does one operation, in this order, whatever is put meanwhile.
func TestFlushSteps(t *testing.T) {
	d, want := disk.New(), disk.New()
	l, _ := open(t, d, 1)
	doAll(want, begins(1, 0))
	flush(t, l, true, 0)
	sameDisks(t, "nothing waits", d, want)
	puts(t, l, right(1), long(2))
	for i, s := range group("log-1", 1, body(right(1)), body(long(2))) {
		flush(t, l, i == 3, 2*(i/3))
		s.do(want)
		sameDisks(t, s.name, d, want)
	}
	for range 3 {
		flush(t, l, true, 2)
		sameDisks(t, "nothing waits any more", d, want)
	}
	// What is put while a group is under way waits for the next one.
	ticket(t, l, right(3), 3)
	for i, s := range group("log-1", 4, body(right(3))) {
		flush(t, l, false, 2+i/3)
		s.do(want)
		sameDisks(t, s.name, d, want)
		ticket(t, l, right(int64(4+i)), 4+i)
	}
	for i, s := range group("log-1", 6, body(right(4)), body(right(5)), body(right(6)), body(right(7))) {
		flush(t, l, i == 3, 3+4*(i/3))
		s.do(want)
		sameDisks(t, s.name, d, want)
	}
	opens(t, "all of it", copied(d), 1, slices.Concat(rights(1, 1), []api.Commit{long(2)}, rights(3, 7)), 2, 11)
}

// P8.4: what is put behind the last operation of a group, too, is a group of its own.
func TestFlushPutAtEachPlace(t *testing.T) {
	for at := range 5 {
		d := disk.New()
		l, _ := open(t, d, 1)
		puts(t, l, right(1))
		for i := range 4 {
			if i == at {
				ticket(t, l, right(2), 2)
			}
			both := at == 0
			flush(t, l, i == 3 && (both || at == 4), (i/3)*(1+btoi(both)))
		}
		if at == 4 {
			ticket(t, l, right(2), 2)
		}
		if at > 0 {
			for i := range 4 {
				flush(t, l, i == 3, 1+i/3)
			}
		}
		flush(t, l, true, 2)
		opens(t, fmt.Sprint(at), copied(d), 1, rights(1, 2), 2, uint64(4+btoi(at > 0)))
	}
}

func btoi(b bool) int {
	if b {
		return 1
	}
	return 0
}

// P8.4: an error of the disk at each operation: it is answered, nothing is flushed by it, and the log is over.
func TestFlushErrors(t *testing.T) {
	for done := range 4 {
		d, want := disk.New(), disk.New()
		l, _ := open(t, d, 1)
		puts(t, l, right(1))
		flushAll(t, l)
		puts(t, l, right(2), right(3))
		doAll(want, begins(1, 0))
		doAll(want, group("log-1", 1, body(right(1))))
		doAll(want, group("log-1", 3, body(right(2)), body(right(3)))[:done])
		d.CutAt(7 + done)
		for range done {
			flush(t, l, false, 1)
		}
		if ok, e := l.Flush(); ok || e != api.ErrDiskOff {
			t.Fatalf("the power goes at %d: %v, %v", done, ok, e)
		}
		isOver(t, d, l, api.ErrDiskOff, 1)
		sameDisks(t, fmt.Sprint("Flush at ", done), d, want)
	}
}

// P8.4: other errors than that of the power.
func TestFlushFull(t *testing.T) {
	for done := range 4 {
		d := disk.New()
		for d.Ops() < api.MaxOps-3-done {
			d.SyncDir()
		}
		l, _ := open(t, d, 1)
		puts(t, l, right(1))
		for range done {
			flush(t, l, false, 0)
		}
		if ok, e := l.Flush(); ok || e != api.ErrDiskFull {
			t.Fatal(done, ok, e)
		}
		isOver(t, d, l, api.ErrDiskFull, 0)
	}
	d := disk.New()
	l, _ := open(t, d, 1)
	puts(t, l, right(1))
	flush(t, l, false, 0)
	d.Delete("log-1")
	if ok, e := l.Flush(); ok || e != api.ErrDiskNone {
		t.Fatal(ok, e)
	}
	isOver(t, d, l, api.ErrDiskNone, 0)
}

// P8.4: a group that fills its segment, to the last block and above it.
func TestFlushFile(t *testing.T) {
	blocks := api.MaxFile / 32
	for _, x := range []struct{ commits, flushes, flushed int }{
		{blocks - 2, 4, blocks - 2}, // the first frame, the commits, the seal
		{blocks - 1, 2, 0},          // no room for the seal
		{blocks, 0, 0},              // none for all commits
		{200000, 0, 0},
	} {
		d := disk.New()
		l, _ := open(t, d, 1)
		c := api.Commit{Time: 1, Writes: []api.Write{{Key: "k", Val: "v"}}}
		begun := time.Now()
		for range x.commits {
			l.Put(c)
		}
		for i := range x.flushes {
			flush(t, l, i == 3, x.flushed*(i/3))
		}
		want := x.flushes == 4
		if want {
			puts(t, l, c)
		}
		if ok, e := l.Flush(); ok || e != api.ErrDiskFull {
			t.Fatalf("%d commits: %v, %v", x.commits, ok, e)
		}
		isOver(t, d, l, api.ErrDiskFull, x.flushed)
		if time.Since(begun) > 20*time.Second {
			t.Fatalf("%d commits took too long", x.commits)
		}
		if want {
			opens(t, "full", copied(d), 1, slices.Repeat([]api.Commit{c}, x.commits), 2, uint64(blocks))
		}
	}
}

// P8.5: without a group, with one at each place, with commits that wait.
func TestRotate(t *testing.T) {
	for under := range 5 { // how many calls of Flush there were: 0 and 4: no group is under way
		for waits := range 3 {
			d, want := disk.New(), disk.New()
			l, _ := open(t, d, 1)
			doAll(want, begins(1, 0))
			puts(t, l, right(1), right(2))
			steps := group("log-1", 1, body(right(1)), body(right(2)))
			for i := range under {
				flush(t, l, i == 3, 2*(i/3))
			}
			put := rights(3, int64(2+waits))
			puts(t, l, put...)
			rotates(t, l, 2)
			if under == 0 { // all of it waits, and goes to the new segment
				doAll(want, begins(2, 1))
				sameDisks(t, "Rotate", d, want)
				if l.Flushed() != 0 {
					t.Fatal(l.Flushed())
				}
				flushAll(t, l)
				var bodies [][]byte
				for _, c := range append(rights(1, 2), put...) {
					bodies = append(bodies, body(c))
				}
				doAll(want, group("log-2", 2, bodies...))
				sameDisks(t, "what waited", d, want)
				continue
			}
			doAll(want, steps)
			doAll(want, begins(2, 4))
			sameDisks(t, fmt.Sprint("Rotate under ", under, " with ", waits), d, want)
			if l.Flushed() != 2 {
				t.Fatal(l.Flushed())
			}
			if waits > 0 {
				var bodies [][]byte
				for _, c := range put {
					bodies = append(bodies, body(c))
				}
				steps := group("log-2", 5, bodies...)
				for i := range 4 {
					flush(t, l, i == 3, 2+waits*(i/3))
					steps[i].do(want)
					sameDisks(t, steps[i].name, d, want)
				}
			}
			ticket(t, l, right(9), 3+waits)
		}
	}
}

// P8.5: again and again; what is put goes to the last segment.
func TestRotateMany(t *testing.T) {
	d := disk.New()
	l, _ := open(t, d, mostFirst)
	var want []api.Commit
	for i := 1; i < 40; i++ {
		rotates(t, l, mostFirst+i)
		if i%3 == 0 {
			rest := rights(int64(i), int64(i+i%5))
			puts(t, l, rest...)
			want = append(want, rest...)
			flushAll(t, l)
		}
	}
	if l.Flushed() != len(want) {
		t.Fatal(l.Flushed())
	}
	opens(t, "many", d, mostFirst, want, mostFirst+40, uint64(40+len(want)+13))
}

// P8.5: an error of the disk at each operation.
func TestRotateErrors(t *testing.T) {
	for done := range 6 {
		d, want := disk.New(), disk.New()
		l, _ := open(t, d, 1)
		puts(t, l, right(1))
		flush(t, l, false, 0)
		puts(t, l, right(2))
		steps := append(group("log-1", 1, body(right(1))), begins(2, 3)...)
		doAll(want, begins(1, 0))
		doAll(want, steps[:1+done])
		d.CutAt(4 + done)
		if n, e := l.Rotate(); n != 0 || e != api.ErrDiskOff {
			t.Fatalf("the power goes at %d: %d, %v", done, n, e)
		}
		sameDisks(t, fmt.Sprint("Rotate at ", done), d, want)
		isOver(t, d, l, api.ErrDiskOff, btoi(done >= 3))
	}
}

// P8.6
func TestDrop(t *testing.T) {
	d := disk.New()
	l, _ := open(t, d, 3)
	for n := 4; n < 8; n++ {
		rotates(t, l, n)
	}
	d.Append("log-02", nil)
	d.Append("log-0", nil)
	d.Append("log-9", nil)
	d.Append("data-1", nil)
	before := shown(d)
	for _, first := range []int{math.MinInt64, -1, 0, 8, 9, 10, mostFirst, math.MaxInt64} {
		if done, e := l.Drop(first); done || e != api.ErrArg {
			t.Fatalf("Drop(%d): %v, %v", first, done, e)
		}
	}
	for _, first := range []int{1, 2, 3} {
		drops(t, l, first, true)
	}
	if !reflect.DeepEqual(before, shown(d)) {
		t.Fatal("Drop of nothing has changed the disk")
	}
	want := copied(d)
	want.CutAt(-1)
	for want.Ops() < d.Ops() {
		want.SyncDir()
	}
	d.SyncDir()
	want.SyncDir()
	for _, x := range []struct {
		first int
		gone  string
		done  bool
	}{
		{5, "log-3", false}, {4, "", true}, {5, "log-4", true}, {5, "", true}, {7, "log-5", false}, {7, "log-6", true}, {7, "", true}, {1, "", true},
	} {
		drops(t, l, x.first, x.done)
		if x.gone != "" {
			want.Delete(x.gone)
		}
		sameDisks(t, fmt.Sprint("Drop ", x.first), d, want)
	}
	// Still a log.
	puts(t, l, right(1))
	flushAll(t, l)
	opens(t, "behind Drop", files(map[string][]byte{"log-7": read(t, d, "log-7")}), 7, rights(1, 1), 8, 7)
}

func read(t *testing.T, d *disk.Disk, name string) []byte {
	t.Helper()
	b, e := d.Read(name)
	if e != api.OK {
		t.Fatal(name, e)
	}
	return b
}

// P8.6: the least one goes first, by its number, not by its name; those that others have left, too; gaps are no matter.
func TestDropOrder(t *testing.T) {
	has := map[string][]byte{}
	numbers := []int{2, 9, 10, 11, 99, 100, 101}
	for _, n := range numbers {
		has[wal.Name(n)] = []byte("x")
	}
	d := files(has)
	l, _ := open(t, d, 1000)
	for i, n := range numbers {
		drops(t, l, 1000, i == len(numbers)-1)
		for j, m := range numbers {
			if slices.Contains(d.Names(), wal.Name(m)) != (j > i) {
				t.Fatalf("Drop number %d, of %d: %v", i, n, d.Names())
			}
		}
	}
	ops := d.Ops()
	drops(t, l, 1000, true)
	if d.Ops() != ops || !slices.Equal(d.Names(), []string{"log-1000"}) {
		t.Fatal(d.Ops(), d.Names())
	}
	// Its own segment is not below it; if that is not there, one below it is the only one.
	d.Append("log-7", nil)
	d.Delete("log-1000")
	drops(t, l, 7, true)
	drops(t, l, 8, true)
	drops(t, l, 1000, true)
	if len(d.Names()) != 0 {
		t.Fatal(d.Names())
	}
}

// P8.6: an error of the disk; no operation, no error.
func TestDropErrors(t *testing.T) {
	d := disk.New()
	l, _ := open(t, d, 1)
	rotates(t, l, 2)
	rotates(t, l, 3)
	puts(t, l, right(1))
	flushAll(t, l)
	off(d)
	drops(t, l, 1, true)
	if done, e := l.Drop(4); done || e != api.ErrArg {
		t.Fatal(done, e)
	}
	if done, e := l.Drop(2); done || e != api.ErrDiskOff {
		t.Fatal(done, e)
	}
	isOver(t, d, l, api.ErrDiskOff, 1)
	if len(d.Names()) != 3 {
		t.Fatal(d.Names())
	}
}

// P8.6: Drop asks nothing of a group that is under way.
func TestDropWithinGroup(t *testing.T) {
	d := disk.New()
	l, _ := open(t, d, 1)
	rotates(t, l, 2)
	rotates(t, l, 3)
	puts(t, l, right(1))
	flush(t, l, false, 0)
	drops(t, l, 3, false)
	flush(t, l, false, 0)
	flush(t, l, false, 0)
	drops(t, l, 3, true)
	flush(t, l, true, 1)
	opens(t, "all", d, 3, rights(1, 1), 4, 5)
}

// R4: a nil log.
func TestNil(t *testing.T) {
	var l *wal.Log
	for _, c := range []api.Commit{right(1), {Time: -1}} {
		if n, e := l.Put(c); n != 0 || e != api.ErrNil {
			t.Error(n, e)
		}
	}
	if done, e := l.Flush(); done || e != api.ErrNil {
		t.Error(done, e)
	}
	if n, e := l.Rotate(); n != 0 || e != api.ErrNil {
		t.Error(n, e)
	}
	for _, first := range []int{-1, 0, 1, 2} {
		if done, e := l.Drop(first); done || e != api.ErrNil {
			t.Error(done, e)
		}
	}
	if n := l.Flushed(); n != 0 {
		t.Error(n)
	}
	// R1: one that no call gave does not panic.
	l = new(wal.Log)
	l.Put(right(1))
	if done, e := l.Flush(); done || e != api.ErrNil {
		t.Error(done, e)
	}
	new(wal.Log).Rotate()
	new(wal.Log).Drop(0)
	new(wal.Log).Drop(1)
}

// R3: what is handed in is left as it was, and not kept; what is answered is new.
func TestMemory(t *testing.T) {
	d := disk.New()
	l, _ := open(t, d, 1)
	room := []api.Write{{Key: "a", Val: "1"}, {Key: "b", Val: "2"}, {Key: "spare", Val: "room"}}
	given := slices.Clone(room)
	c := api.Commit{Time: 4, Writes: given[:2]}
	puts(t, l, c)
	if !slices.Equal(given, room) {
		t.Fatal("Put has written into what it was given")
	}
	given[0] = api.Write{Key: "z", Val: "other"}
	given[1].Gone = true
	flushAll(t, l)
	want := []api.Commit{{Time: 4, Writes: room[:2]}, {Time: 5, Writes: room[:1]}, {Time: 6}}
	puts(t, l, want[1:]...)
	flushAll(t, l)
	rotates(t, l, 2)
	bytesOf := read(t, d, "log-1")
	_, a := open(t, d, 1)
	_, b := open(t, d, 1)
	if !sameCommits(a, want) || !sameCommits(b, want) {
		t.Fatal(told(a), told(b))
	}
	// Whatever is done to one answer, spare room too, the others do not tell.
	for i := range a {
		ws := a[i].Writes[:cap(a[i].Writes)]
		for j := range ws {
			ws[j] = api.Write{Key: "over", Val: "written", Gone: true}
		}
	}
	if !sameCommits(b, want) {
		t.Fatal("two answers share memory")
	}
	for i := range b {
		ws := b[i].Writes[:cap(b[i].Writes)]
		for j := range ws {
			ws[j].Key = fmt.Sprint(i, j)
		}
		for k := i + 1; k < len(b); k++ {
			if !slices.Equal(b[k].Writes, want[k].Writes) {
				t.Fatal("two lists of an answer share memory")
			}
		}
	}
	if !bytes.Equal(read(t, d, "log-1"), bytesOf) {
		t.Fatal("an answer shares memory with the disk")
	}
	_, again := open(t, d, 1)
	if !sameCommits(again, want) {
		t.Fatal(told(again))
	}
}

// R4: two logs have nothing in common.
func TestTwoLogs(t *testing.T) {
	d, e := disk.New(), disk.New()
	a, _ := open(t, d, 1)
	b, _ := open(t, e, 5)
	puts(t, a, right(1), right(2))
	ticket(t, b, right(7), 1)
	flushAll(t, a)
	flush(t, b, false, 0)
	off(d)
	puts(t, a, right(3))
	if _, x := a.Flush(); x != api.ErrDiskOff {
		t.Fatal(x)
	}
	rotates(t, b, 6)
	if a.Flushed() != 2 || b.Flushed() != 1 {
		t.Fatal(a.Flushed(), b.Flushed())
	}
	opens(t, "b", e, 5, rights(7, 7), 7, 4)
}
