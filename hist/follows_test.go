package hist_test

import (
	"maps"
	"math/rand"
	"slices"
	"strconv"
	"testing"

	"varve/api"
	"varve/hist"
	"varve/txn"
)

// isUnderWay: had a commit begun, when the call at n - 1 was answered, that was answered later?
func isUnderWay(l []api.Done, n int) bool {
	return n > 0 && slices.ContainsFunc(l[n:], func(d api.Done) bool {
		return d.Call.Kind == api.CCommit && d.Reply.Code == api.OK && d.Begun < l[n-1].Ended
	})
}

// P19.4: up to each Done it is right, and has committed a beginning of what it has committed, but for what was not committed then.
func TestBeginnings(t *testing.T) {
	counts := map[api.Errno]int{}
	for seed := range 400 {
		r := newMaker(seed, 2+seed%4)
		p := r.history(60)
		list, _ := hist.Commits(p.rows, p.l)
		for n := range p.l {
			if isUnderWay(p.l, n) {
				_, e := hist.Check(p.rows, p.l[:n])
				counts[e]++
				continue
			}
			have := 0
			for _, d := range p.l[:n] {
				if d.Call.Kind == api.CCommit && d.Reply.Code == api.OK {
					have++
				}
			}
			commits(t, p.rows, p.l[:n], list[:have]...)
			counts[-1]++
		}
	}
	// With commits under way nothing but a read may be wrong.
	if len(counts) != 3 || counts[-1] < 5000 || counts[api.OK] < 500 || counts[api.ErrHistRead] < 3 {
		t.Error(counts)
	}
}

// behind is rows with commits applied.
func behind(rows []api.Row, list []api.Commit) []api.Row {
	now := map[string]api.Row{}
	for _, r := range rows {
		now[r.Key] = r
	}
	for _, c := range list {
		for _, w := range c.Writes {
			if delete(now, w.Key); !w.Gone {
				now[w.Key] = row(w.Key, w.Val, c.Time)
			}
		}
	}
	var last []api.Row
	for _, key := range slices.Sorted(maps.Keys(now)) {
		last = append(last, now[key])
	}
	return last
}

// told is rows as a scan tells them.
func told(rows []api.Row) api.Reply {
	var texts []string
	for _, r := range rows {
		texts = append(texts, r.Key, r.Val)
	}
	return rowsOf(texts...)
}

// P19.4: who begins behind a right history reads rows with all its commits applied, and nothing else.
func TestRowsBehind(t *testing.T) {
	count := 0
	for seed := range 600 {
		r := newMaker(seed, 2+seed%5)
		p := r.history(r.Intn(70))
		list, e := hist.Commits(p.rows, p.l)
		if e != api.OK {
			t.Fatal(e)
		}
		last := behind(p.rows, list)
		w := slices.IndexFunc(r.workers[:], func(x worker) bool { return !x.open && !x.dead && !x.under })
		if w < 0 || slices.ContainsFunc(r.workers[:], func(x worker) bool { return x.under && x.call.Kind == api.CCommit }) {
			continue // a commit that has begun may be read
		}
		count++
		h := teller{l: slices.Clone(p.l), now: r.now}
		h.does(w, begin, ok)
		h.does(w, all, told(last))
		h.does(w, commit, at(r.time+1))
		n := len(h.l)
		right(t, p.rows, h.l)
		if len(last) > 0 {
			h.l[n-2].Reply = told(last[1:])
			checks(t, p.rows, h.l, n-2, api.ErrHistRead)
			checks(t, p.rows, h.l[:n-1], n-3, api.ErrHistRead)
		}
		h.l[n-2].Reply = told(append(slices.Clone(last), row("z", "", 0)))
		checks(t, p.rows, h.l, n-2, api.ErrHistRead)
		h.l[n-1].Reply.Time = 0
		checks(t, p.rows, h.l, n-1, api.ErrHistOrder)
	}
	if count < 300 {
		t.Error(count)
	}
}

// cut: is a history one behind the other of two, without a transaction or a call that is in both?
func (p plain) cut(n int) bool {
	for w := range 16 {
		if (plain{nil, append(slices.Clone(p.l[:n]), done(w, 0, 0, sweep, ok))}).opened(n) >= 0 {
			return false
		}
	}
	return !slices.ContainsFunc(p.l[n:], func(d api.Done) bool { return n > 0 && d.Begun < p.l[n-1].Ended })
}

// P19.4: what comes behind a right history is one that begins with rows with all its commits applied.
func TestGoesOnFromRowsBehind(t *testing.T) {
	count := 0
	for seed := range 600 {
		r := newMaker(seed, 2+seed%5)
		p := r.history(10 + r.Intn(50))
		all, _ := hist.Commits(p.rows, p.l)
		for n := range p.l {
			if !p.cut(n) {
				continue
			}
			list, e := hist.Commits(p.rows, p.l[:n])
			if e != api.OK {
				t.Fatal(e)
			}
			commits(t, behind(p.rows, list), p.l[n:], all[len(list):]...)
			count++
		}
	}
	if count < 2000 {
		t.Error(count)
	}
}

// P19.4: workers' numbers may be given otherwise, whether it is right or not.
func TestOtherWorkers(t *testing.T) {
	codes := map[api.Errno]int{}
	for seed := range 1500 {
		r := newMaker(seed, 2+seed%5)
		p := r.history(40)
		if seed%3 > 0 {
			p = r.spoil(p)
		}
		place, e := hist.Check(p.rows, p.l)
		list, _ := hist.Commits(p.rows, p.l)
		numbers := r.Perm(16)
		l := slices.Clone(p.l)
		for i := range l {
			if l[i].W >= 0 && l[i].W < 16 {
				l[i].W = numbers[l[i].W]
			}
		}
		codes[e]++
		if checks(t, p.rows, l, place, e); e == api.OK {
			commits(t, p.rows, l, list...)
		}
	}
	if codes[api.OK] < 200 || codes[api.ErrHistForm] < 50 || codes[api.ErrHistOrder] < 50 || codes[api.ErrHistRead] < 200 {
		t.Error(codes)
	}
}

// memory is a table of transactions whose workers go on by turns at random, and what they were asked and answered.
type memory struct {
	*rand.Rand
	m     *txn.Memory
	now   int
	l     []api.Done
	under [4]bool
	begun [4]int
	asked [4]api.Call
}

func (r *memory) ask(open bool) api.Call {
	c := api.Call{Kind: api.CBegin, Mode: 1 + r.Intn(2), Key: name(r.Intn(4)), Val: strconv.Itoa(r.Intn(5)), Draw: 1 + r.Intn(3)}
	if r.Intn(10) == 0 {
		c.Kind = r.Intn(13)
	} else if open {
		c.Kind = []int{2, 2, 2, 3, 4, 4, 5, 5, 6, 7, 7, 8}[r.Intn(12)]
	}
	if c.Kind == api.CCheckpoint || c.Kind == api.CMerge {
		c.Kind = api.CSweep
	}
	if c.Kind == api.CScan && r.Intn(2) == 0 {
		c.High = name(r.Intn(4))
	}
	return c
}

// turn lets one worker do a step, or begin a call, if it is to.
func (r *memory) turn(w int, more bool) {
	if !r.under[w] {
		if more {
			r.asked[w], r.begun[w], r.under[w] = r.ask(r.m.Has(w)), r.now, true
			r.m.Start(w, r.asked[w])
		}
		return
	}
	r.m.Step(w)
	if reply, is := r.m.Reply(w); is {
		r.now++
		r.l = append(r.l, done(w, r.begun[w], r.now, r.asked[w], reply))
		r.under[w] = false
	}
}

func (r *memory) run(t *testing.T, calls int) {
	for len(r.l) < calls {
		r.turn(r.Intn(4), true)
	}
	for turns := 0; slices.Contains(r.under[:], true); turns++ {
		if r.turn(turns%4, false); turns > 1000000 {
			t.Fatal("calls are not answered")
		}
	}
}

// P19.1, P19.2 and T1: what a memory's transactions were answered, however they went by turns, is a history; its rows are those behind all commits. What is changed of it is told as a plainer one tells it.
func TestMemorysHistories(t *testing.T) {
	kinds, codes := map[api.Errno]int{}, map[int]int{}
	for seed := range 300 {
		rows := []api.Row{row(name(0), "x", 3), row(name(1), "y", int64(seed%9))}
		m, e := txn.New(rows, nil)
		if e != api.OK {
			t.Fatal(e)
		}
		r := &memory{Rand: rand.New(rand.NewSource(int64(seed))), m: m}
		r.run(t, 150)
		for _, d := range r.l {
			kinds[d.Reply.Code]++
		}
		right(t, rows, r.l)
		list, _ := hist.Commits(rows, r.l)
		s := m.Snap()
		for !s.Step() {
		}
		if got := s.Rows(); !slices.Equal(got, behind(rows, list)) {
			t.Fatalf("seed %d: rows %v, commits %v", seed, got, list)
		}
		spoiler := newMaker(seed, 4)
		for range 4 {
			codes[spoiler.spoil(plain{rows, r.l}).agrees(t).rule]++
		}
	}
	for _, e := range []api.Errno{api.OK, api.ErrTxnHas, api.ErrTxnMissing, api.ErrTxnConflict, api.ErrTxnNone, api.ErrTxnOpen, api.ErrTxnCall} {
		if kinds[e] < 100 {
			t.Error(e, kinds)
		}
	}
	for rule := range 6 {
		if codes[rule] < 20 {
			t.Error(codes)
		}
	}
}

// R1: the greatest histories are told, too: of many rows, with many commits, and workers that have begun ahead of all of them.
func TestGreatest(t *testing.T) {
	rows := many(4096)
	everything := told(rows)
	last := told(rows)
	last.Rows[4095].Val = "0"
	for _, reply := range []api.Reply{everything, last, none} {
		var h teller
		for w := range 10 {
			h.fine(w, begin)
		}
		for i := range 1000 {
			h.fine(12, begin, update(name(4095), strconv.Itoa(i%3)))
			h.does(12, commit, at(int64(20+i)))
		}
		right(t, rows, h.l)
		for w := range 10 {
			h.does(w, all, reply)
		}
		if reply.Rows == nil {
			checks(t, rows, h.l, 0, api.ErrHistRead)
		} else {
			right(t, rows, h.l)
		}
	}
}

// R1, P19.1.5: many transactions that only rows much later explain, or none, as one key is right at one time, and another one at another.
func TestManyUnexplained(t *testing.T) {
	rows := many(400)
	for n := 1; n <= 4; n++ {
		var h teller
		var others []int // places of CBegins of those that no rows have explained yet
		now := slices.Clone(rows)
		for i := range 600 {
			at, val := 300+i%n, strconv.Itoa(300+i%5)
			h.fine(12, begin, update(name(at), val))
			h.does(12, commit, api.Reply{Time: int64(20 + i)})
			now[at].Val = val
			others = append(others, len(h.l))
			h.fine(13, begin)
			h.does(13, all, told(rows))
			h.fine(13, abort)
			if slices.Equal(now, rows) {
				others = nil
			}
		}
		if len(others) > 0 {
			checks(t, rows, h.l, others[0], api.ErrHistRead)
		} else {
			right(t, rows, h.l)
		}
	}
}
