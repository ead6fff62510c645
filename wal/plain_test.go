package wal_test

import (
	"fmt"
	"math/rand"
	"slices"
	"strings"
	"testing"

	"varve/api"
	"varve/disk"
	"varve/frame"
	"varve/record"
	"varve/wal"
)

// plainLog is a second log, told as the chapter tells it: a list of all that was put, and a list of operations that are still to be done.
type plainLog struct {
	d       *disk.Disk
	segment int
	seq     uint64
	put     []api.Commit
	taken   int // how many of them were ever in a group
	flushed int
	todo    []func() api.Errno
	over    api.Errno
}

func digitsOf(n int) string {
	if n < 10 {
		return string(rune('0' + n))
	}
	return digitsOf(n/10) + string(rune('0'+n%10))
}

func plainName(n int) string { return "log-" + digitsOf(n) }

// plainHas: is there this segment?
func plainHas(d *disk.Disk, n int) bool { return slices.Contains(d.Names(), plainName(n)) }

// plainAll reads a segment's frames by Take alone; false: no crash leaves these bytes.
func plainAll(b []byte, want uint64) ([][]byte, bool) {
	var bodies [][]byte
	at := 0
	for at+32 <= len(b) {
		seq, x, behind, ok := frame.Take(b, at)
		if !ok || seq != want {
			break
		}
		bodies, at, want = append(bodies, x), behind, want+1
	}
	for ; at < len(b); at += 32 {
		if seq, _, _, ok := frame.Take(b, at); ok && seq >= want {
			return nil, false
		}
	}
	return bodies, true
}

// plainOpen asks for no segment above top, which is above all that the tests make.
func plainOpen(d *disk.Disk, first, top int) (*plainLog, []api.Commit, api.Errno) {
	switch {
	case d == nil:
		return nil, nil, api.ErrNil
	case first < 1 || first > mostFirst:
		return nil, nil, api.ErrArg
	}
	if _, e := d.Read("x"); e == api.ErrDiskOff {
		return nil, nil, e
	}
	names := d.Names()
	for n := first + 1; n <= top; n++ {
		if slices.Contains(names, plainName(n)) && !slices.Contains(names, plainName(n-1)) {
			return nil, nil, api.ErrWalCorrupt
		}
	}
	var commits []api.Commit
	var seqs []uint64 // of all frames that were read
	n := first
	for ; plainHas(d, n); n++ {
		b, _ := d.Read(plainName(n))
		zero, body, _, ok := frame.Take(b, 0)
		var must uint64
		if len(seqs) > 0 {
			must = seqs[len(seqs)-1] + 1
		} else if ok {
			must = zero
		}
		if ok && (zero != must || string(body) != string(frameOfFirst(n))) {
			return nil, nil, api.ErrWalCorrupt
		}
		bodies, ok := plainAll(b, must)
		if !ok {
			return nil, nil, api.ErrWalCorrupt
		}
		for i, x := range bodies {
			seqs = append(seqs, must+uint64(i))
			if i == 0 || len(x) == 0 {
				continue
			}
			c, _, e := record.Commit(x)
			if e != api.OK {
				return nil, nil, api.ErrWalCorrupt
			}
			commits = append(commits, c)
		}
	}
	l := &plainLog{d: d, segment: n}
	if len(seqs) > 0 {
		l.seq = seqs[len(seqs)-1] + 1
	}
	if e := l.begin(n); e != api.OK {
		return nil, nil, e
	}
	return l, commits, api.OK
}

func frameOfFirst(n int) []byte {
	b := []byte{'L'}
	for n >= 128 {
		b = append(b, byte(n%128+128))
		n /= 128
	}
	return append(b, byte(n))
}

func (l *plainLog) append(bodies [][]byte) api.Errno {
	b := frames(l.seq, bodies...)
	l.seq += uint64(len(bodies))
	return l.d.Append(plainName(l.segment), b)
}

func (l *plainLog) sync() api.Errno { return l.d.Sync(plainName(l.segment)) }

func (l *plainLog) begin(n int) api.Errno {
	l.segment = n
	for _, op := range []func() api.Errno{
		func() api.Errno { return l.append([][]byte{frameOfFirst(n)}) },
		l.sync,
		l.d.SyncDir,
	} {
		if e := op(); e != api.OK {
			return e
		}
	}
	return api.OK
}

func (l *plainLog) Put(c api.Commit) (int, api.Errno) {
	if l.over != api.OK {
		return 0, l.over
	}
	if _, e := record.PutCommit(c); e != api.OK {
		return 0, api.ErrWalForm
	}
	l.put = append(l.put, c)
	return len(l.put), api.OK
}

func (l *plainLog) next() api.Errno {
	op := l.todo[0]
	l.todo = l.todo[1:]
	l.over = op()
	return l.over
}

func (l *plainLog) Flush() (bool, api.Errno) {
	if l.over != api.OK {
		return false, l.over
	}
	if len(l.todo) == 0 && l.taken < len(l.put) {
		var bodies [][]byte
		for _, c := range l.put[l.taken:] {
			bodies = append(bodies, body(c))
		}
		l.taken = len(l.put)
		to := l.taken
		l.todo = []func() api.Errno{
			func() api.Errno { return l.append(bodies) },
			l.sync,
			func() api.Errno { return l.append([][]byte{nil}) },
			func() api.Errno {
				e := l.sync()
				if e == api.OK {
					l.flushed = to
				}
				return e
			},
		}
	}
	if len(l.todo) > 0 {
		if e := l.next(); e != api.OK {
			return false, e
		}
	}
	return len(l.todo) == 0 && l.taken == len(l.put), api.OK
}

func (l *plainLog) Rotate() (int, api.Errno) {
	if l.over != api.OK {
		return 0, l.over
	}
	for len(l.todo) > 0 {
		if e := l.next(); e != api.OK {
			return 0, e
		}
	}
	if l.over = l.begin(l.segment + 1); l.over != api.OK {
		return 0, l.over
	}
	return l.segment, api.OK
}

func (l *plainLog) Drop(first int) (bool, api.Errno) {
	if l.over != api.OK {
		return false, l.over
	}
	if first < 1 || first > l.segment {
		return false, api.ErrArg
	}
	n := 1
	for n < first && !plainHas(l.d, n) {
		n++
	}
	if n == first {
		return true, api.OK
	}
	if l.over = l.d.Delete(plainName(n)); l.over != api.OK {
		return false, l.over
	}
	for ; n < first; n++ {
		if plainHas(l.d, n) {
			return false, api.OK
		}
	}
	return true, api.OK
}

// pair is a log and the plain one, each on a disk of its own, to both of which the same is done.
type pair struct {
	d, plainDisk *disk.Disk
	l            *wal.Log
	plain        *plainLog
	drawn        *rand.Rand
	done         []string
}

func (p *pair) commit() api.Commit {
	at := int64(p.drawn.Intn(20) - 1) // -1 is no Time
	switch p.drawn.Intn(4) {
	case 0:
		return long(at)
	case 1:
		return api.Commit{Time: at}
	}
	return right(at)
}

func (p *pair) fate() api.Fate {
	return api.Fate{Keep: p.drawn.Intn(300) * p.drawn.Intn(2), Dirs: p.drawn.Intn(4), Tear: p.drawn.Intn(70) * p.drawn.Intn(2)}
}

// poke turns a byte of a segment, or appends bytes that may be frames, as no log does.
func (p *pair) poke() string {
	names := p.d.Names()
	if len(names) == 0 {
		return "poke nothing"
	}
	name := names[p.drawn.Intn(len(names))]
	b, _ := p.d.Read(name)
	if len(b) == 0 || p.drawn.Intn(3) == 0 {
		more := frames(uint64(p.drawn.Intn(12)), [][]byte{nil, body(right(3)), frameOfFirst(1 + p.drawn.Intn(3)), []byte("x")}[p.drawn.Intn(4)])
		p.d.Append(name, more)
		p.plainDisk.Append(name, more)
		return "append to " + name
	}
	at, x := p.drawn.Intn(len(b)), byte(p.drawn.Intn(256))
	p.d.Poke(name, at, x)
	p.plainDisk.Poke(name, at, x)
	return fmt.Sprint("poke ", name, " ", at)
}

// do does one thing to both: which, its error, and what both have answered.
func (p *pair) do() (string, api.Errno, string, string) {
	switch k := p.drawn.Intn(40); {
	case k < 12 && p.l != nil:
		c := p.commit()
		n, e := p.l.Put(c)
		m, f := p.plain.Put(c)
		return "Put", e, fmt.Sprint(n, e), fmt.Sprint(m, f)
	case k < 29 && p.l != nil:
		a, e := p.l.Flush()
		b, f := p.plain.Flush()
		return "Flush", e, fmt.Sprint(a, e, p.l.Flushed()), fmt.Sprint(b, f, p.plain.flushed)
	case k < 31 && p.l != nil:
		n, e := p.l.Rotate()
		m, f := p.plain.Rotate()
		return "Rotate", e, fmt.Sprint(n, e, p.l.Flushed()), fmt.Sprint(m, f, p.plain.flushed)
	case k < 33 && p.l != nil:
		first := p.drawn.Intn(7)
		a, e := p.l.Drop(first)
		b, f := p.plain.Drop(first)
		return fmt.Sprint("Drop ", first), e, fmt.Sprint(a, e), fmt.Sprint(b, f)
	case k == 33:
		at := p.drawn.Intn(12) - 1
		if at >= 0 {
			at += p.d.Ops()
		}
		p.d.CutAt(at)
		p.plainDisk.CutAt(at)
		return fmt.Sprint("CutAt ", at), api.OK, "", ""
	case k == 34 && p.drawn.Intn(3) == 0:
		return p.poke(), api.OK, "", ""
	case k < 37 && p.l == nil: // what is corrupt stays so
		p.d, p.plainDisk = disk.New(), disk.New()
	case k < 37:
		f := p.fate()
		p.d, p.plainDisk = p.d.Crash(f), p.plainDisk.Crash(f)
	}
	first := p.drawn.Intn(4)
	l, a, e := wal.Open(p.d, first)
	plain, b, f := plainOpen(p.plainDisk, first, 80)
	if (l == nil) != (plain == nil) {
		return fmt.Sprint("Open ", first), e, fmt.Sprint(l, e), fmt.Sprint(plain, f)
	}
	p.l, p.plain = l, plain
	return fmt.Sprint("Open ", first), e, fmt.Sprintf("%+v %v", a, e), fmt.Sprintf("%+v %v", b, f)
}

// P8.2 to P8.6: whatever is done, both answer the same, and leave the same on the disk.
func TestAgainstPlain(t *testing.T) {
	counts := map[string]int{}
	for seed := range int64(600) {
		p := &pair{d: disk.New(), plainDisk: disk.New(), drawn: rand.New(rand.NewSource(seed))}
		for range 60 {
			what, e, got, want := p.do()
			p.done = append(p.done, what)
			if got != want {
				t.Fatalf("seed %d, %s: %s, not %s", seed, strings.Join(p.done, ", "), told(got), told(want))
			}
			sameDisks(t, fmt.Sprint("seed ", seed, " ", p.done), p.d, p.plainDisk)
			word, _, _ := strings.Cut(what, " ")
			counts[fmt.Sprint(word, " ", int(e))]++
		}
	}
	for _, often := range []string{"Open 0", "Open 2", "Open 24", "Open 81", "Put 0", "Put 24", "Put 80", "Flush 0", "Flush 24", "Rotate 0", "Rotate 24", "Drop 0", "Drop 2", "Drop 24"} {
		if counts[often] < 30 {
			t.Errorf("%s came too seldom: %v", often, counts)
		}
	}
}
