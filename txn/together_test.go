package txn_test

import (
	"fmt"
	"math/rand"
	"slices"
	"testing"

	"varve/api"
	"varve/txn"
)

// crowd is workers that ask for what comes to their minds.
type crowd struct {
	*story
	r       *rand.Rand
	workers int
	keys    int
	mode    int // 0: both; else the one
	sweeps  bool
	weight  int  // how many calls a transaction has, about
	lazy    bool // workers rest for a long time, wherever they are
	rests   [16]int
}

func (c *crowd) key() string { return fmt.Sprintf("k%02d", c.r.Intn(c.keys)) }

// call is a worker's next one.
func (c *crowd) call(w int) api.Call {
	if c.open[w] == nil {
		if c.sweeps && c.r.Intn(6) == 0 {
			return swept
		}
		mode := 1 + c.r.Intn(2)
		if c.mode != 0 {
			mode = c.mode
		}
		return beginOf(mode)
	}
	val := fmt.Sprint(c.r.Intn(4))
	if c.r.Intn(c.weight) == 0 {
		return []api.Call{commit, commit, commit, commit, abort}[c.r.Intn(5)]
	}
	from := []string{c.key(), ""}[c.r.Intn(2)]
	to := []string{c.key(), ""}[c.r.Intn(2)]
	all := []api.Call{get(c.key()), get(c.key()), scan(from, to), insert(c.key(), val), insert(c.key(), val), update(c.key(), val), remove(c.key())}
	return all[c.r.Intn(len(all))]
}

// glance is rows that were told in between.
type glance struct {
	at    int64
	rows  []api.Row
	under []*deal // those whose commits were under way
}

// isRight: are they those that were committed at the time, without those that were under way?
func (g glance) isRight(first table, list []*deal) error {
	for _, d := range list {
		if d.time <= g.at && !slices.Contains(g.under, d) {
			first = first.stand(writtenBy(d), d.time)
		}
	}
	if !slices.Equal(first.rows(), g.rows) {
		return fmt.Errorf("at %d there is %v, not %v", g.at, g.rows, first.rows())
	}
	return nil
}

// writtenBy is what a transaction has written.
func writtenBy(d *deal) written {
	w := written{}
	for i, c := range d.calls {
		if d.replies[i].Code != api.OK {
			continue
		}
		switch c.Kind {
		case api.CInsert, api.CUpdate:
			w[c.Key] = &c.Val
		case api.CDelete:
			w[c.Key] = nil
		}
	}
	return w
}

// run lets all of them go on for so many steps, by turns that are fair, with glances in between; then all end.
func (c *crowd) run(steps int) []glance {
	var told []glance
	var snap *txn.Snap
	for c.now < steps && c.fault == nil {
		for _, w := range c.r.Perm(c.workers) {
			if c.rests[w]--; c.lazy && c.r.Intn(60) == 0 {
				c.rests[w] = c.r.Intn(300)
			}
			if c.rests[w] > 0 {
				c.now++ // so that it ends, though all rest
				continue
			}
			c.burst(w, c.r.Intn(1+c.r.Intn(12)))
		}
		if snap == nil && c.r.Intn(20) == 0 {
			snap = c.m.Snap()
		}
		for range c.r.Intn(10) {
			if snap != nil && snap.Step() {
				told = append(told, glance{at: snap.At(), rows: snap.Rows()})
				snap = nil
			}
		}
		if c.r.Intn(20) == 0 {
			told = append(told, glance{at: c.m.Now(), rows: c.m.Rows(c.m.Now()), under: c.underWay()})
		}
	}
	c.end()
	for range 100000 {
		if snap == nil || snap.Step() {
			return told
		}
	}
	c.fail("a Snap is not done")
	return told
}

// burst is some steps of a worker.
func (c *crowd) burst(w, steps int) {
	for range steps {
		if c.fault != nil {
			return
		}
		if !c.under[w] {
			c.start(w, c.call(w))
		}
		if c.step(w); !c.lazy && c.steps[w] > c.most(w) {
			c.fail("worker %d: %v: %d steps", w, c.asked[w], c.steps[w])
		}
	}
}

// underWay are the transactions whose commits are.
func (c *crowd) underWay() []*deal {
	var list []*deal
	for w := range c.workers {
		if c.under[w] && c.asked[w].Kind == api.CCommit {
			list = append(list, c.open[w])
		}
	}
	return list
}

// end lets all come to their ends: what is under way is answered, then those that have a transaction abort it.
func (c *crowd) end() {
	for range 2 {
		for under := true; under && c.fault == nil; {
			under = false
			for w := range c.workers {
				if c.under[w] {
					c.step(w)
					under = true
				}
			}
		}
		for w := range c.workers {
			if c.open[w] != nil && c.fault == nil {
				c.start(w, abort)
			}
		}
	}
	for w := range c.workers {
		if c.under[w] && c.fault == nil {
			c.finish(w)
		}
	}
}

// P17.4, P17.6: whatever workers do, together, their transactions may have been run one at a time; each call is answered; Snaps and Rows tell what was committed; and what nobody reads is swept.
func together(t *testing.T, seed int64, c crowd, rows []api.Row, log txn.Log, steps int) *story {
	t.Helper()
	m := memory(t, log, rows...)
	c.story, c.r = newStory(m, rows), rand.New(rand.NewSource(seed))
	told := c.run(steps)
	all, err := c.told()
	if c.fault != nil {
		err = c.fault
	}
	if err != nil {
		t.Fatalf("seed %d: %v", seed, err)
	}
	for _, g := range told {
		if err := g.isRight(all.tables[0], c.committed()); err != nil {
			t.Fatalf("seed %d: %v", seed, err)
		}
	}
	last := all.tables[len(all.tables)-1].rows()
	hasRows(t, m.Rows(m.Now()), last...)
	before := m.Versions()
	if r := c.do(0, swept); r.N != before-len(last) || m.Versions() != len(last) {
		t.Fatalf("seed %d: a sweep answers %v; of %d versions %d are left, with %d rows", seed, r, before, m.Versions(), len(last))
	}
	hasRows(t, m.Rows(m.Now()), last...)
	return c.story
}

// P17.6: the tally says that all that may come did come.
func TestManyTogether(t *testing.T) {
	seed := int64(0)
	ends := map[api.Errno]int{}
	for _, workers := range []int{2, 3, 5, 16} {
		for _, keys := range []int{1, 2, 4, 12} {
			for _, mode := range []int{0, api.Optimistic, api.Pessimistic} {
				for _, weight := range []int{2, 5, 12} {
					for range 4 {
						seed++
						c := crowd{workers: workers, keys: keys, mode: mode, weight: weight, sweeps: seed%2 == 0, lazy: seed%4 > 1}
						s := together(t, seed, c, []api.Row{row("k00", "x", 3), row("k01", "y", 7)}, nil, 4000)
						for code, n := range s.ends {
							ends[code] += n
						}
					}
				}
			}
		}
	}
	for _, code := range []api.Errno{api.OK, api.ErrTxnConflict, api.ErrTxnDeadlock, api.ErrTxnHas, api.ErrTxnMissing} {
		if ends[code] < 500 {
			t.Errorf("%v: %d times", code, ends[code])
		}
	}
	t.Log(ends)
}

// P17.5, P17.6: workers that put in the last keys that there may be, together: just as many as may be, and only the others are told that there is no room.
func TestTheLastKeysTogether(t *testing.T) {
	for seed := range int64(150) {
		r := rand.New(rand.NewSource(seed))
		rows := many(250)
		s := newStory(memory(t, nil, rows...), rows)
		had, refused := map[string]bool{}, map[string]bool{}
		for range 400 {
			w := r.Intn(8)
			if !s.under[w] && s.open[w] == nil {
				s.start(w, beginOf(1+r.Intn(2)))
			}
			for range r.Intn(9) {
				if !s.under[w] && s.open[w] != nil {
					s.start(w, []api.Call{insert(fmt.Sprint("n", r.Intn(9)), "x"), abort}[r.Intn(2)])
				}
				if !s.under[w] {
					break
				}
				switch reply, is := s.step(w); {
				case !is || s.asked[w].Kind != api.CInsert:
				case reply.Code == api.ErrTxnFull:
					refused[s.asked[w].Key] = true
				default:
					had[s.asked[w].Key] = true
				}
			}
		}
		for w := range 8 {
			if s.under[w] {
				s.finish(w)
			}
			if s.open[w] != nil {
				s.do(w, abort)
			}
		}
		there := 0
		for i := range 9 {
			key := fmt.Sprint("n", i)
			s.do(0, pessimistic)
			is := s.do(0, get(key)).Code == api.OK
			if is {
				there++
				s.do(0, abort)
			}
			if had[key] && !is || refused[key] && is {
				t.Fatalf("seed %d: %s: put in %t, refused %t, there %t", seed, key, had[key], refused[key], is)
			}
		}
		if s.check(t); there != 6 {
			t.Fatalf("seed %d: %d keys", seed, there)
		}
	}
}

// P17.6: the bound of steps, where many have read all that there may be, and commit at once.
func TestAllCommitAtOnce(t *testing.T) {
	for _, mode := range []int{api.Optimistic, api.Pessimistic} {
		var rows []api.Row
		s := newStory(memory(t, nil), rows)
		s.do(0, optimistic)
		for i := range 60 {
			s.do(0, api.Call{Kind: api.CInsert, Key: fmt.Sprintf("%03d", 4*i), Draw: 1})
		}
		s.do(0, commit)
		for w := range 16 {
			s.do(w, beginOf(mode))
			s.do(w, scan("", fmt.Sprintf("%03d", 4*(w+1))))
			s.do(w, scan(fmt.Sprintf("%03d", 4*(w+1)), ""))
		}
		for w := range 16 {
			s.start(w, update(fmt.Sprintf("%03d", 239-4*w-3), "x"))
		}
		worst := 0
		for under := true; under && s.fault == nil; {
			under = false
			for w := range 16 {
				if !s.under[w] && s.open[w] != nil {
					s.start(w, commit)
				}
				if s.under[w] {
					s.step(w)
					under = true
					if worst = max(worst, s.steps[w]); s.steps[w] > s.most(w) {
						t.Fatalf("worker %d: %d steps", w, s.steps[w])
					}
				}
			}
		}
		s.check(t)
		t.Log(mode, worst, s.ends)
	}
}
