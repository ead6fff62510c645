package reload_test

import (
	"fmt"
	"math/rand"
	"slices"
	"strings"
	"testing"

	"varve/api"
	"varve/ckpt"
	"varve/disk"
	"varve/reload"
	"varve/wal"
)

// plainReplay is Replay, told plainly: each time the commit with the least Time that is not done yet, each key found by going over all rows.
func plainReplay(list []api.Row, from int64, l []api.Commit) ([]api.Row, int64, bool) {
	for i, r := range list {
		if !plainKey(r.Key) || len(r.Val) > 64 || !plainTime(r.Time) || i > 0 && strings.Compare(list[i-1].Key, r.Key) >= 0 {
			return nil, 0, false
		}
	}
	for i, c := range l {
		if !plainCommit(c) {
			return nil, 0, false
		}
		for _, other := range l[:i] {
			if other.Time == c.Time && c.Time > from {
				return nil, 0, false
			}
		}
	}
	out := slices.Clone(list)
	for {
		next := -1
		for i, c := range l {
			if c.Time > from && (next < 0 || c.Time < l[next].Time) {
				next = i
			}
		}
		if next < 0 {
			return out, from, true
		}
		for _, w := range l[next].Writes {
			out = plainWrite(out, w, l[next].Time)
		}
		from = l[next].Time
	}
}

func plainWrite(list []api.Row, w api.Write, at int64) []api.Row {
	var out []api.Row
	for _, r := range list {
		if r.Key < w.Key {
			out = append(out, r)
		}
	}
	if !w.Gone {
		out = append(out, api.Row{Key: w.Key, Val: w.Val, Time: at})
	}
	for _, r := range list {
		if r.Key > w.Key {
			out = append(out, r)
		}
	}
	return out
}

func plainKey(s string) bool { return len(s) >= 1 && len(s) <= 16 }

func plainTime(t int64) bool { return t >= 0 && t < 1<<40 }

func plainCommit(c api.Commit) bool {
	if !plainTime(c.Time) || len(c.Writes) > 64 {
		return false
	}
	for i, w := range c.Writes {
		if !plainKey(w.Key) || len(w.Val) > 64 || w.Gone && w.Val != "" || i > 0 && c.Writes[i-1].Key >= w.Key {
			return false
		}
	}
	return true
}

// answersPlainly: Replay answers what plainReplay does. Whether it was an answer is answered.
func answersPlainly(t *testing.T, what string, list []api.Row, from int64, l []api.Commit) bool {
	t.Helper()
	want, at, right := plainReplay(list, from, l)
	if right {
		replays(t, what, list, from, l, at, want...)
	} else {
		refusesReplay(t, what, list, from, l)
	}
	return right
}

func TestReplayAtRandom(t *testing.T) {
	draw := rand.New(rand.NewSource(16))
	var count [2]int
	for n := range 40000 {
		var list []api.Row
		for key := range 6 {
			if draw.Intn(2) == 0 {
				list = append(list, row(string(rune('a'+key)), fmt.Sprint(n), int64(draw.Intn(8))))
			}
		}
		var l []api.Commit
		for _, at := range draw.Perm(10)[:draw.Intn(6)] {
			l = append(l, commit(int64(at), drawnWrites(draw)...))
		}
		spoil(draw, list, l)
		if answersPlainly(t, fmt.Sprint("round ", n), list, int64(draw.Intn(12))-1, l) {
			count[1]++
		} else {
			count[0]++
		}
	}
	if count[0] < 5000 || count[1] < 5000 {
		t.Error(count)
	}
}

func drawnWrites(draw *rand.Rand) []api.Write {
	var out []api.Write
	for key := range 6 {
		switch draw.Intn(5) {
		case 0:
			out = append(out, set(string(rune('a'+key)), fmt.Sprint(draw.Intn(100))))
		case 1:
			out = append(out, gone(string(rune('a'+key))))
		}
	}
	return out
}

// spoil makes, now and then, something not right.
func spoil(draw *rand.Rand, list []api.Row, l []api.Commit) {
	texts := []string{"", "a", "c", strings.Repeat("k", 16), strings.Repeat("k", 17), strings.Repeat("v", 64), strings.Repeat("v", 65)}
	text := texts[draw.Intn(len(texts))]
	time := []int64{-1, 0, 3, lastTime, lastTime + 1}[draw.Intn(5)]
	if len(list) > 0 {
		r := &list[draw.Intn(len(list))]
		switch draw.Intn(12) {
		case 0:
			r.Key = text
		case 1:
			r.Val = text
		case 2:
			r.Time = time
		}
	}
	if len(l) == 0 {
		return
	}
	c := &l[draw.Intn(len(l))]
	switch draw.Intn(8) {
	case 0, 1:
		c.Time = l[draw.Intn(len(l))].Time
	case 2:
		c.Time = time
	case 3:
		if len(c.Writes) > 0 {
			w := &c.Writes[draw.Intn(len(c.Writes))]
			switch draw.Intn(3) {
			case 0:
				w.Key = text
			case 1:
				w.Val = text
			case 2:
				w.Gone = !w.Gone
			}
		}
	}
}

// All lists of up to three commits of one Write each, of two keys and the Times 0 to 3, behind rows of either key.
func TestReplayEach(t *testing.T) {
	var each []api.Commit
	for at := range int64(4) {
		for _, w := range []api.Write{set("a", "x"), set("b", ""), gone("a")} {
			each = append(each, commit(at, w))
		}
	}
	lists := [][]api.Commit{nil}
	for from := 0; len(lists[from]) < 3; from++ {
		for _, c := range each {
			lists = append(lists, append(slices.Clone(lists[from]), c))
		}
	}
	right := 0
	for _, l := range lists {
		for _, list := range [][]api.Row{nil, rows(row("a", "y", 2)), rows(row("b", "z", 0)), rows(row("a", "", 1), row("b", "", 1))} {
			for from := range int64(5) {
				if answersPlainly(t, told(l), list, from-1, l) {
					right++
				}
			}
		}
	}
	if len(lists) != 1+12+144+1728 || right < 10000 {
		t.Error(len(lists), right)
	}
}

// plainOpen is what Open answers of a disk, told plainly, by what the layers below tell of it; it works on the disk as Open does.
func plainOpen(d *disk.Disk) (reload.State, api.Errno) {
	m, base, e := ckpt.Load(d)
	if e == api.ErrCkptCorrupt {
		return reload.State{}, api.ErrReloadCorrupt
	}
	if e != api.OK {
		return reload.State{}, e
	}
	if _, e := d.Read("manifest"); e == api.OK {
		if _, e := d.Read(fmt.Sprint("log-", m.Log)); e == api.ErrDiskNone {
			return reload.State{}, api.ErrReloadCorrupt
		}
	}
	_, list, e := wal.Open(d, m.Log)
	if e == api.ErrWalCorrupt {
		return reload.State{}, api.ErrReloadCorrupt
	}
	if e != api.OK {
		return reload.State{}, e
	}
	s := reload.State{Manifest: m, Base: base}
	var right bool
	if s.Rows, s.Time, right = plainReplay(base, m.Time, list); !right {
		return reload.State{}, api.ErrReloadCorrupt
	}
	for _, c := range list {
		if c.Time > m.Time {
			s.Times = append(s.Times, c.Time)
		}
	}
	slices.Sort(s.Times)
	return s, api.OK
}

// drawnFiles is what a disk may have: perhaps a manifest, pairs, segments; not always as they should be.
func drawnFiles(draw *rand.Rand) map[string][]byte {
	has := map[string][]byte{}
	m := manifest(1)
	if draw.Intn(4) > 0 {
		m = manifest(1+draw.Intn(3), []int64{4, 6}[:draw.Intn(3)]...)
		has["manifest"] = manifestFile(m)
	}
	for i, p := range m.Pairs {
		has[ckpt.DataName(p.Number)] = dataFile(p, row(string(rune('a'+i)), "x", p.From+1), row("d", fmt.Sprint(i), p.To))
		has[ckpt.DeltaName(p.Number)] = deltaFile(p)
		if i > 0 {
			has[ckpt.DeltaName(p.Number)] = deltaFile(p, api.Gone{Key: "d", Time: 4})
		}
	}
	seq := uint64(draw.Intn(3))
	times := draw.Perm(14)
	for number := m.Log; number < m.Log+draw.Intn(4); number++ {
		var list []api.Commit
		for range draw.Intn(3) {
			list = append(list, commit(int64(times[0]), drawnWrites(draw)...))
			if draw.Intn(20) > 0 { // else the next one has the same Time
				times = times[1:]
			}
		}
		has[wal.Name(number)] = segment(number, seq, list...)
		seq += uint64(len(list)) + 2
	}
	return has
}

func TestOpenAtRandom(t *testing.T) {
	draw := rand.New(rand.NewSource(17))
	count := map[api.Errno]int{}
	for n := range 20000 {
		has := drawnFiles(draw)
		d := files(has)
		if names := d.Names(); len(names) > 0 && draw.Intn(4) == 0 {
			name := names[draw.Intn(len(names))]
			switch draw.Intn(3) {
			case 0:
				d.Delete(name)
			case 1:
				d.Poke(name, draw.Intn(max(1, len(has[name]))), byte(draw.Intn(256)))
			case 2:
				d.Append(name, []byte("more"))
			}
		}
		if draw.Intn(10) == 0 {
			d = files(filled(has))
		}
		other := copied(d)
		d = copied(d)
		cut := draw.Intn(30)
		d.CutAt(cut)
		other.CutAt(cut)
		want, wrong := plainOpen(other)
		s, l, e := reload.Open(d)
		if e != wrong || !sameStates(s, want) || (l != nil) != (e == api.OK) {
			t.Fatalf("round %d: Open: %s, %v; plainly %s, %v", n, told(s), e, told(want), wrong)
		}
		if d.Ops() != other.Ops() || fmt.Sprint(lies(d)) != fmt.Sprint(lies(other)) {
			t.Fatalf("round %d: %d operations, %v", n, d.Ops(), d.Names())
		}
		count[e]++
	}
	for _, e := range []api.Errno{api.OK, api.ErrReloadCorrupt, api.ErrDiskFull, api.ErrDiskOff} {
		if count[e] < 300 {
			t.Errorf("%v came %d times", e, count[e])
		}
	}
}
