package txn_test

import (
	"fmt"
	"math/rand"
	"slices"
	"testing"

	"varve/api"
)

// solo is one worker behind the other, none of whom has anything under way when another one comes.
type solo struct {
	*story
	t     *testing.T
	r     *rand.Rand
	table table
	own   *plain
	mode  int
	w     int
	known map[string]struct{} // keys that were ever there, inserted, or asked for by a pessimistic transaction
	past  map[int64][]api.Row // the rows at each time behind the last sweep
	mark  int64
}

// expect is what a call is to be answered.
func (s *solo) expect(c api.Call) api.Reply {
	_, is := s.known[c.Key]
	asks := c.Kind == api.CInsert || s.mode == api.Pessimistic && (c.Kind == api.CGet || c.Kind == api.CUpdate || c.Kind == api.CDelete)
	if asks && !is && len(s.known) == 256 {
		return code(api.ErrTxnFull)
	}
	if asks {
		s.known[c.Key] = struct{}{}
	}
	return s.own.do(c)
}

func (s *solo) ask(c api.Call, want api.Reply) {
	s.t.Helper()
	before := s.m.Versions()
	s.start(s.w, c)
	most := 1000 + s.bound(s.w)
	r := s.finish(s.w)
	if c.Kind == api.CSweep {
		most += 8 * before
	}
	switch {
	case s.fault != nil:
		s.t.Fatal(s.fault)
	case !sameReply(r, want):
		s.t.Fatalf("%v: %v, not %v", c, r, want)
	case s.steps[s.w] > most:
		s.t.Fatalf("%v: %d steps, not %d; %d keys", c, s.steps[s.w], most, len(s.keys))
	}
	if c.Kind != api.CCommit && c.Kind != api.CAbort && !aborts(r.Code) && c.Kind != api.CSweep && s.m.Drawn(s.w) != 0 {
		s.t.Fatalf("%v: drawn %d", c, s.m.Drawn(s.w))
	}
}

// begin begins a transaction of another worker.
func (s *solo) begin() {
	s.w, s.mode = s.r.Intn(16), 1+s.r.Intn(2)
	s.ask(beginOf(s.mode), api.Reply{})
	s.own = &plain{rows: s.table, wrote: written{}}
}

func (s *solo) end(commits bool) {
	if !commits {
		s.ask(abort, api.Reply{})
		s.own = nil
		return
	}
	now := s.m.Now() + 1
	s.ask(commit, at(now))
	s.table = s.table.stand(s.own.wrote, now)
	s.past[now] = s.table.rows()
	s.own = nil
}

// sweep leaves as many versions as there are rows: T7.
func (s *solo) sweep() {
	s.w = s.r.Intn(16)
	s.ask(swept, api.Reply{N: s.m.Versions() - len(s.table)})
	if s.m.Versions() != len(s.table) {
		s.t.Fatalf("%d versions, %d rows", s.m.Versions(), len(s.table))
	}
	s.mark = s.m.Now()
}

// look holds the rows at all times that may be told against those that were there.
func (s *solo) look() {
	for time := s.mark; time <= s.m.Now(); time++ {
		if want, is := s.past[time]; is {
			hasRows(s.t, s.m.Rows(time), want...)
		}
	}
}

func (s *solo) snap() {
	snap, steps := s.m.Snap(), 1
	for !snap.Step() {
		steps++
	}
	if k := len(s.keys); steps > 1000+(1+k)*(100+2*k) {
		s.t.Fatalf("a Snap of %d keys: %d steps", k, steps)
	}
	if snap.At() != s.m.Now() {
		s.t.Fatalf("a Snap at %d, not %d", snap.At(), s.m.Now())
	}
	hasRows(s.t, snap.Rows(), s.table.rows()...)
}

func (s *solo) key(keys int) string { return fmt.Sprintf("%c%d", 'a'+s.r.Intn(3), s.r.Intn(keys)) }

func (s *solo) call(keys int) api.Call {
	val := fmt.Sprint(s.r.Intn(1000))
	key := s.key(keys)
	draw := s.r.Intn(10)
	in := api.Call{Kind: api.CInsert, Key: key, Val: val, Draw: draw}
	all := []api.Call{get(key), scan(key, s.key(keys)), scan("", ""), in, in, in, update(key, val), remove(key)}
	if keys > 20 {
		all = slices.Delete(all, 2, 3)
	}
	return all[s.r.Intn(len(all))]
}

// live lets one call come behind the other.
func (s *solo) live(calls, keys, weight int) {
	for range calls {
		switch n := s.r.Intn(weight); {
		case s.own == nil && n == 0:
			s.sweep()
		case s.own == nil && n == 1:
			s.look()
			s.snap()
		case s.own == nil:
			s.begin()
		case n == 0:
			s.end(s.r.Intn(5) > 0)
		default:
			c := s.call(keys)
			want := s.expect(c)
			s.ask(c, want)
			if want.Code == api.ErrTxnFull {
				s.own = nil
			}
		}
	}
}

func newSolo(t *testing.T, seed int64, rows []api.Row) *solo {
	m := memory(t, nil, rows...)
	s := &solo{story: newStory(m, rows), t: t, r: rand.New(rand.NewSource(seed)), table: tableOf(rows), known: map[string]struct{}{}, past: map[int64][]api.Row{}, mark: m.Now()}
	for _, r := range rows {
		s.known[r.Key] = struct{}{}
	}
	s.past[m.Now()] = rows
	return s
}

// P17.5, T5, T7: transactions that run one at a time are answered as a map would, within so many steps.
func TestAlone(t *testing.T) {
	seed := int64(0)
	full := 0
	for _, keys := range []int{1, 3, 10, 80, 100} {
		for _, weight := range []int{3, 8, 40, 300} {
			for range 3 {
				seed++
				s := newSolo(t, seed, []api.Row{row("a0", "x", 3), row("b2", "y", 9)})
				s.live(2000, keys, weight)
				full += s.ends[api.ErrTxnFull]
				if s.own != nil {
					s.end(true)
				}
				s.check(t)
			}
		}
	}
	if full < 20 {
		t.Errorf("only %d were full", full)
	}
}

// P17.5: a commit that has read much, and all that it may have written; the bounds of steps are held by ask.
func TestAloneAtTheBounds(t *testing.T) {
	for _, mode := range []int{api.Optimistic, api.Pessimistic} {
		for _, draw := range []int{1, 8} {
			s := newSolo(t, 5, many(150))
			s.w, s.mode = 4, mode
			s.ask(beginOf(mode), api.Reply{})
			s.own = &plain{rows: s.table, wrote: written{}}
			for i := range 106 {
				c := api.Call{Kind: api.CInsert, Key: fmt.Sprintf("x%03d", 999-i), Val: "v", Draw: draw}
				if i >= 64 {
					c = get(fmt.Sprintf("y%03d", i))
				}
				s.ask(c, s.expect(c))
			}
			for i := range 60 {
				c := scan(fmt.Sprintf("%04d", i), "")
				s.ask(c, s.expect(c))
				c = scan("", fmt.Sprintf("x%03d", 900+i))
				s.ask(c, s.expect(c))
			}
			s.end(true)
			s.look()
			s.snap()
			s.sweep()
			s.check(t)
		}
	}
}

// P17.5: 64 keys that a transaction has written, whatever became of them, and no other one.
func TestTooManyWrites(t *testing.T) {
	for _, mode := range []int{api.Optimistic, api.Pessimistic} {
		for _, change := range []api.Call{insert("z", "1"), update("0100", "1"), remove("0101")} {
			m := memory(t, nil, many(110)...)
			fine(t, m, 2, beginOf(mode))
			for i := range 64 {
				key := fmt.Sprintf("%04d", i)
				switch i % 3 {
				case 0:
					fine(t, m, 2, update(key, "own"), update(key, "again"))
				case 1:
					fine(t, m, 2, remove(key))
				case 2:
					fine(t, m, 2, insert("n"+key, "own"), remove("n"+key))
				}
			}
			// Keys that it has written may be written again; what may not be is told first; reading is no writing.
			fine(t, m, 2, update("0000", "more"), insert("0001", "back"), insert("n0002", "back"), remove("n0002"))
			says(t, m, 2, insert("0100", "1"), code(api.ErrTxnHas))
			says(t, m, 2, update("zz", "1"), code(api.ErrTxnMissing))
			says(t, m, 2, remove("zz"), code(api.ErrTxnMissing))
			says(t, m, 2, get("0100"), found("2"))
			says(t, m, 2, change, code(api.ErrTxnFull))
			if m.Has(2) {
				t.Fatal("it has a transaction")
			}
			says(t, m, 2, get("0000"), code(api.ErrTxnNone))
			hasRows(t, m.Rows(m.Now()), many(110)...)
			hasVersions(t, m, 110)
			fine(t, m, 3, pessimistic)
			says(t, m, 3, scan("", "0002"), rowsOf("0000", "0", "0001", "1"))
		}
	}
}

// P17.5: 256 keys, and the 257th.
func TestTooManyKeys(t *testing.T) {
	for _, mode := range []int{api.Optimistic, api.Pessimistic} {
		m := memory(t, nil, many(250)...)
		// Those that an optimistic transaction asks for are none of them.
		fine(t, m, 0, optimistic)
		for i := range 300 {
			says(t, m, 0, get(fmt.Sprint("n", i)), api.Reply{})
			says(t, m, 0, update(fmt.Sprint("m", i), ""), code(api.ErrTxnMissing))
			says(t, m, 0, remove(fmt.Sprint("l", i)), code(api.ErrTxnMissing))
		}
		fine(t, m, 0, abort)
		// These are: inserted, though it is aborted, or asked for.
		fine(t, m, 0, optimistic, insert("p0", "x"), abort, pessimistic, insert("p1", "x"), abort, pessimistic)
		says(t, m, 0, get("p2"), api.Reply{})
		says(t, m, 0, update("p3", ""), code(api.ErrTxnMissing))
		says(t, m, 0, remove("p4"), code(api.ErrTxnMissing))
		fine(t, m, 0, abort, beginOf(mode), insert("p5", "x"))
		says(t, m, 0, commit, at(11))

		fine(t, m, 0, beginOf(mode), remove("p5"), insert("p5", "y"), insert("p0", "y"), insert("p4", "y"))
		says(t, m, 0, insert("p6", "y"), code(api.ErrTxnFull))
		fine(t, m, 0, optimistic)
		says(t, m, 0, get("p6"), api.Reply{})
		says(t, m, 0, update("p6", "y"), code(api.ErrTxnMissing))
		says(t, m, 0, remove("p6"), code(api.ErrTxnMissing))
		says(t, m, 0, scan("p6", ""), api.Reply{})
		fine(t, m, 0, abort)
		for _, c := range []api.Call{get("p6"), update("p6", "y"), remove("p6"), insert("p6", "y")} {
			fine(t, m, 0, pessimistic, insert("p3", "y"))
			says(t, m, 0, scan("p6", "p7"), api.Reply{})
			says(t, m, 0, c, code(api.ErrTxnFull))
			if m.Has(0) {
				t.Fatal("it has a transaction")
			}
		}
		hasRows(t, m.Rows(99), append(many(250), row("p5", "x", 11))...)
		fine(t, m, 1, pessimistic, insert("p3", "z"))
		says(t, m, 1, commit, at(12))
	}
}

// P17.5: ErrTxnFull of the 257th key comes ahead of ErrTxnMissing, and that of the writes behind it.
func TestFullOfBoth(t *testing.T) {
	m := memory(t, nil, many(256)...)
	fine(t, m, 0, pessimistic)
	for i := range 64 {
		fine(t, m, 0, remove(fmt.Sprintf("%04d", i)))
	}
	says(t, m, 0, update("0000", "x"), code(api.ErrTxnMissing))
	says(t, m, 0, update("none", "x"), code(api.ErrTxnFull))
	hasRows(t, m.Rows(99), many(256)...)
}

// No cells: the transaction is aborted, nothing of it stands; a sweep makes room again.
func TestNoCells(t *testing.T) {
	m := memory(t, nil, row("a", "x", 0), row("b", "x", 0))
	full := false
	for i := 0; !full; i++ {
		if i > 30000 {
			t.Fatal("there is room for all")
		}
		r := do(t, m, 0, beginOf(1+i%2))
		if r.Code == api.OK {
			fine(t, m, 0, remove("b"), insert("b", "y"))
			r = do(t, m, 0, update("a", fmt.Sprint(i)))
		}
		if r.Code == api.OK {
			r = do(t, m, 0, commit)
		}
		full = r.Code == api.ErrTxnFull
	}
	if m.Has(0) || m.Versions() < 15000 {
		t.Fatal(m.Has(0), m.Versions())
	}
	rows := m.Rows(m.Now())
	if r := do(t, m, 1, swept); r.Code != api.OK || m.Versions() != 2 {
		t.Fatal(r, m.Versions())
	}
	hasRows(t, m.Rows(m.Now()), rows...)
	fine(t, m, 0, optimistic, update("a", "more"))
	says(t, m, 0, commit, at(m.Now()+1))
}

// What a transaction takes of the memory's room it gives back, however it ends.
func TestNoRoomIsLost(t *testing.T) {
	m := memory(t, nil, many(256)...)
	for i := range 70000 {
		fine(t, m, 0, beginOf(1+i%2))
		if i%2 == 0 {
			fine(t, m, 0, update("0001", "x"), abort)
			continue
		}
		says(t, m, 0, get("none"), code(api.ErrTxnFull))
	}
	fine(t, m, 0, pessimistic, update("0000", "x"))
	says(t, m, 0, commit, at(11))
	hasVersions(t, m, 257)
}
