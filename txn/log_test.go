package txn_test

import (
	"fmt"
	"math/rand"
	"slices"
	"testing"

	"varve/api"
	"varve/disk"
	"varve/txn"
	"varve/wal"
)

// scroll is a log that keeps what is put, and is told when to flush, and when to fail.
type scroll struct {
	commits  []api.Commit
	flushed  int
	every    int // so many calls of Flush let all last that was put; 0: none does
	flushes  int
	putFails api.Errno
	fails    api.Errno
	failAt   int // the call of Flush that fails; 0: none does
}

func (s *scroll) Put(c api.Commit) (int, api.Errno) {
	if s.putFails != api.OK {
		return 0, s.putFails
	}
	s.commits = append(s.commits, c)
	return len(s.commits), api.OK
}

func (s *scroll) Flush() (bool, api.Errno) {
	s.flushes++
	if s.failAt != 0 && s.flushes >= s.failAt {
		return false, s.fails
	}
	if s.every != 0 && s.flushes%s.every == 0 {
		s.flushed = len(s.commits)
	}
	return s.flushed == len(s.commits), api.OK
}

func (s *scroll) Flushed() int { return s.flushed }

// lasts: is a commit with this timestamp flushed?
func (s *scroll) lasts(time int64) bool {
	return slices.ContainsFunc(s.commits[:s.flushed], func(c api.Commit) bool { return c.Time == time })
}

// P17.2: what the log is told of a commit that has written something: its timestamp, and what it has written, by rising keys.
func TestWhatIsPut(t *testing.T) {
	for _, mode := range []int{api.Optimistic, api.Pessimistic} {
		log := &scroll{every: 1}
		m := memory(t, log, row("a", "x", 3), row("b", "x", 3), row("c", "x", 3))
		fine(t, m, 0, beginOf(mode))
		fine(t, m, 0, insert("z", "1"), update("c", "2"), remove("b"), insert("aa", "4"), remove("aa"), remove("a"), insert("a", "x"), insert("y", "5"), update("y", "6"))
		if len(log.commits) != 0 || log.flushes != 0 {
			t.Fatal("the log is told ahead of the commit")
		}
		says(t, m, 0, commit, at(4))
		want := []api.Write{{Key: "a", Val: "x"}, {Key: "b", Gone: true}, {Key: "c", Val: "2"}, {Key: "y", Val: "6"}, {Key: "z", Val: "1"}}
		if len(log.commits) != 1 || log.commits[0].Time != 4 || !slices.Equal(log.commits[0].Writes, want) {
			t.Errorf("%v", log.commits)
		}
		hasRows(t, m.Rows(4), row("a", "x", 4), row("c", "2", 4), row("y", "6", 4), row("z", "1", 4))
	}
}

// One that has written nothing, or is aborted, has nothing to do with the log.
func TestWhatIsNotPut(t *testing.T) {
	log := &scroll{putFails: api.ErrDiskOff, failAt: 1, fails: api.ErrDiskOff}
	m := memory(t, log, row("a", "x", 3))
	for i, mode := range []int{api.Optimistic, api.Pessimistic} {
		fine(t, m, 0, beginOf(mode))
		says(t, m, 0, get("a"), found("x"))
		says(t, m, 0, insert("a", ""), code(api.ErrTxnHas))
		says(t, m, 0, scan("", ""), rowsOf("a", "x"))
		says(t, m, 0, commit, at(int64(4+i)))
		fine(t, m, 0, beginOf(mode), update("a", "y"), abort)
	}
	fine(t, m, 0, optimistic, update("a", "y"))
	fine(t, m, 1, optimistic)
	conflicts(t, m, 1, update("a", "z"))
	if log.flushes != 0 {
		t.Error("flushed")
	}
}

// P17.2, P17.3: a commit is answered only when Flushed has reached its ticket; one call of Flush a step; Drawn tells the timestamp meanwhile; nobody reads what does not last yet.
func TestLateLog(t *testing.T) {
	for _, mode := range []int{api.Optimistic, api.Pessimistic} {
		log := &scroll{}
		m := memory(t, log, row("a", "x", 3), row("b", "x", 3))
		fine(t, m, 0, beginOf(mode))
		says(t, m, 0, get("b"), found("x"))
		fine(t, m, 0, update("a", "y"), insert("c", "y"))
		if m.Drawn(0) != 0 {
			t.Error("drawn ahead of the commit")
		}
		start(t, m, 0, commit)
		if m.Drawn(0) != 0 {
			t.Error("drawn ahead of a step")
		}
		for range 1000 {
			was := log.flushes
			waits(t, m, 0, 1)
			if log.flushes > was+1 {
				t.Fatal("two calls of Flush in a step")
			}
			if drawn := m.Drawn(0); len(log.commits) == 1 && drawn != 4 {
				t.Fatalf("drawn %d, and the log was told", drawn)
			}
		}
		if log.flushes < 900 || m.Drawn(0) != 4 || m.Now() != 4 || !m.Has(0) {
			t.Fatal(log.flushes, m.Drawn(0), m.Now())
		}
		hasRows(t, m.Rows(4), row("a", "x", 3), row("b", "x", 3))

		// Others read on, and those that have written nothing end.
		fine(t, m, 1, optimistic)
		says(t, m, 1, scan("", ""), rowsOf("a", "x", "b", "x"))
		fine(t, m, 1, abort, optimistic)
		says(t, m, 1, get("b"), found("x"))
		says(t, m, 1, commit, at(5))
		fine(t, m, 1, pessimistic)
		start(t, m, 1, get("a"))
		waits(t, m, 1, 100)
		fine(t, m, 2, optimistic)
		conflicts(t, m, 2, update("a", "z"))
		fine(t, m, 2, pessimistic)
		if mode == api.Optimistic {
			conflicts(t, m, 2, insert("c", "z"))
		} else {
			start(t, m, 2, insert("c", "z"))
			waits(t, m, 2, 100)
		}

		log.flushed = 1
		if r := finish(t, m, 0); !sameReply(r, at(4)) || m.Drawn(0) != 0 {
			t.Error(r, m.Drawn(0))
		}
		if r := finish(t, m, 1); !sameReply(r, found("y")) {
			t.Error(r)
		}
	}
}

// Who has begun behind a commit that was answered sees it, and waits for those with lesser timestamps that are under way.
func TestReadingBesideALateLog(t *testing.T) {
	log := &scroll{}
	m := memory(t, log, row("a", "x", 3), row("b", "x", 3))
	fine(t, m, 0, optimistic, update("a", "y"))
	start(t, m, 0, commit)
	waits(t, m, 0, 100)
	fine(t, m, 1, optimistic)
	says(t, m, 1, commit, at(5))
	// Behind the one at 5 the one at 4 is to be seen, if it commits.
	fine(t, m, 2, optimistic)
	says(t, m, 2, get("b"), found("x"))
	start(t, m, 2, get("a"))
	waits(t, m, 2, 100)
	log.flushed = 1
	waits(t, m, 2, 100)
	if r := finish(t, m, 0); !sameReply(r, at(4)) {
		t.Fatal(r)
	}
	if r := finish(t, m, 2); !sameReply(r, found("y")) {
		t.Fatal(r)
	}
	says(t, m, 2, commit, at(6))
}

// What an optimistic one has read is looked at with the lesser timestamps, also of those whose commits are under way.
func TestCommitBesideALateLog(t *testing.T) {
	for _, reads := range []api.Call{get("a"), scan("", ""), get("c")} {
		log := &scroll{}
		m := memory(t, log, row("a", "x", 3), row("b", "x", 3))
		fine(t, m, 0, optimistic, update("a", "y"), insert("c", "y"))
		start(t, m, 0, commit)
		waits(t, m, 0, 100)
		fine(t, m, 1, optimistic)
		do(t, m, 1, reads)
		start(t, m, 1, commit)
		waits(t, m, 1, 100)
		if m.Drawn(1) != 0 || m.Drawn(0) != 4 {
			t.Error(m.Drawn(1), m.Drawn(0))
		}
		log.flushed = 1
		finish(t, m, 0)
		if r := finish(t, m, 1); !sameReply(r, code(api.ErrTxnConflict)) {
			t.Error(r)
		}
	}
}

// P17.2: an error of the log is answered to whoever has a call under way; behind it Start answers ErrEngineOff.
func TestLogThatFails(t *testing.T) {
	for _, fault := range []api.Errno{api.ErrDiskOff, api.ErrDiskFull, api.ErrWalCorrupt, api.ErrWalForm} {
		for _, log := range []*scroll{{putFails: fault}, {every: 9, failAt: 1, fails: fault}, {every: 9, failAt: 4, fails: fault}} {
			m := memory(t, log, row("a", "x", 3), row("b", "x", 3))
			fine(t, m, 0, optimistic, update("a", "y"))
			fine(t, m, 1, pessimistic, update("b", "y"))
			fine(t, m, 2, optimistic)
			start(t, m, 0, commit)
			start(t, m, 1, commit)
			start(t, m, 2, get("a"))
			start(t, m, 3, swept)
			start(t, m, 4, optimistic)
			for m.Step(4) {
			}
			first := finish(t, m, 0)
			if !sameReply(first, code(fault)) {
				t.Fatal(first)
			}
			for _, w := range []int{1, 2, 3} {
				refusesStart(t, m, w, optimistic, api.ErrTxnBusy)
				if !m.Step(w) || m.Step(w) {
					t.Errorf("worker %d: steps", w)
				}
				if r, is := m.Reply(w); !is || !sameReply(r, code(fault)) {
					t.Errorf("worker %d: %v", w, r)
				}
			}
			refusesStart(t, m, 4, optimistic, api.ErrTxnBusy)
			if r, is := m.Reply(4); !is || !sameReply(r, api.Reply{}) {
				t.Error(r) // it was answered ahead of that
			}
			refusesStart(t, m, 16, optimistic, api.ErrArg)
			for w := range 16 {
				refusesStart(t, m, w, optimistic, api.ErrEngineOff)
				if m.Step(w) {
					t.Errorf("worker %d: a step", w)
				}
			}
			if m.Drawn(0) != 4 || !m.Has(0) || !m.Has(1) || m.Drawn(1) != 0 || m.Now() != 4 {
				t.Error(m.Drawn(0), m.Has(0), m.Drawn(1), m.Now())
			}
			hasRows(t, m.Rows(9), row("a", "x", 3), row("b", "x", 3))
		}
	}
}

// A log that fails at its first call has failed nobody who does not ask it.
func TestNobodyAsksTheLog(t *testing.T) {
	log := &scroll{failAt: 1, fails: api.ErrDiskOff, putFails: api.ErrDiskOff}
	s := newStory(memory(t, log, row("a", "x", 3)), []api.Row{row("a", "x", 3)})
	for w := range 16 {
		s.do(w, beginOf(1+w%2))
		s.do(w, get("a"))
		s.do(w, get("b"))
		s.do(w, commit)
	}
	s.check(t)
}

// P17.6 with a log: a commit that has written something is answered when it lasts, and no reply tells what does not. A memory is left at some moment, as by a crash: what was told until then is explained by what lasts.
func TestCrashesWithALateLog(t *testing.T) {
	left := 0
	for seed := range int64(600) {
		log := &scroll{every: 1 + int(seed%7)*int(seed%5)}
		rows := []api.Row{row("k00", "x", 3), row("k01", "y", 7)}
		m := memory(t, log, rows...)
		c := crowd{story: newStory(m, rows), r: rand.New(rand.NewSource(seed)), workers: 2 + int(seed%6), keys: 1 + int(seed%9), weight: 3, sweeps: seed%3 == 0}
		for c.now < 100+int(seed) && c.fault == nil {
			for _, w := range c.r.Perm(c.workers) {
				c.burst(w, c.r.Intn(1+c.r.Intn(30)))
			}
		}
		for _, d := range c.deals {
			if d.committed && len(writtenBy(d)) > 0 && !log.lasts(d.time) {
				t.Fatalf("seed %d: %d is answered, and does not last", seed, d.time)
			}
		}
		for w, d := range c.open {
			if d != nil && c.under[w] && c.asked[w].Kind == api.CCommit && log.lasts(m.Drawn(w)) {
				d.committed, d.time, d.ended = true, m.Drawn(w), c.now+1
				left++
			}
		}
		lasting := 0
		for _, d := range c.deals {
			if d.committed && len(writtenBy(d)) > 0 {
				lasting++
			}
		}
		if lasting != log.flushed {
			t.Fatalf("seed %d: %d commits last, not %d", seed, log.flushed, lasting)
		}
		if _, err := c.told(); err != nil || c.fault != nil {
			t.Fatalf("seed %d: %v, %v", seed, err, c.fault)
		}
	}
	if left < 5 {
		t.Errorf("only %d were under way and last", left)
	}
}

// The commits that are put make the rows, as the transactions do.
func TestPutCommitsMakeTheRows(t *testing.T) {
	for seed := range int64(60) {
		log := &scroll{every: 1 + int(seed%4)}
		rows := []api.Row{row("k00", "x", 3), row("k02", "y", 7)}
		told := together(t, 1000+seed, crowd{workers: 2 + int(seed%7), keys: 2 + int(seed%8), weight: 4, sweeps: seed%2 == 0}, rows, log, 2500)
		now := tableOf(rows)
		slices.SortFunc(log.commits, func(a, b api.Commit) int { return int(a.Time - b.Time) })
		for _, c := range log.commits {
			for i, w := range c.Writes {
				if i > 0 && c.Writes[i-1].Key >= w.Key || w.Gone && w.Val != "" {
					t.Fatalf("%v", c)
				}
				if _, is := now[w.Key]; w.Gone && !is {
					t.Fatalf("%v: %s was not there", c, w.Key)
				}
				now = now.stand(written{w.Key: valOf(w)}, c.Time)
			}
		}
		hasRows(t, told.m.Rows(last), now.rows()...)
	}
}

func valOf(w api.Write) *string {
	if w.Gone {
		return nil
	}
	return &w.Val
}

// A log of a disk serves.
func TestWalAsTheLog(t *testing.T) {
	d := disk.New()
	l, _, e := wal.Open(d, 1)
	if e != api.OK {
		t.Fatal(e)
	}
	m := memory(t, l)
	for w := range 4 {
		fine(t, m, w, beginOf(1+w%2), insert(fmt.Sprint(w), "x"))
		start(t, m, w, commit)
	}
	for range 100 {
		for w := range 4 {
			m.Step(w)
		}
	}
	var times []int64
	for w := range 4 {
		r, is := m.Reply(w)
		if !is || r.Code != api.OK {
			t.Error(w, r)
		}
		times = append(times, r.Time)
	}
	if slices.Sort(times); !slices.Equal(times, []int64{1, 2, 3, 4}) {
		t.Error(times)
	}
	_, had, e := wal.Open(d.Crash(api.Fate{}), 1)
	if len(had) != 4 || e != api.OK {
		t.Fatal(had, e)
	}
	var log txn.Log = l
	d.CutAt(d.Ops())
	m = memory(t, log)
	fine(t, m, 0, optimistic, insert("a", "x"))
	says(t, m, 0, commit, code(api.ErrDiskOff))
	refusesStart(t, m, 1, optimistic, api.ErrEngineOff)
}
