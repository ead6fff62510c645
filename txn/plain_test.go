package txn_test

import (
	"fmt"
	"maps"
	"slices"
	"testing"

	"varve/api"
	"varve/txn"
)

// table is rows, told plainly.
type table map[string]api.Row

func tableOf(rows []api.Row) table {
	t := table{}
	for _, r := range rows {
		t[r.Key] = r
	}
	return t
}

func (t table) rows() []api.Row {
	var rows []api.Row
	for _, k := range slices.Sorted(maps.Keys(t)) {
		rows = append(rows, t[k])
	}
	return rows
}

// written is what a transaction has done to its keys: a value, or nothing, if it has taken the key away.
type written map[string]*string

// plain is one transaction on a table.
type plain struct {
	rows  table
	wrote written
}

func (p plain) get(key string) (string, bool) {
	if v, is := p.wrote[key]; is {
		if v == nil {
			return "", false
		}
		return *v, true
	}
	r, is := p.rows[key]
	return r.Val, is
}

func (p plain) scan(key, high string) []api.Row {
	keys := map[string]struct{}{}
	for k := range p.rows {
		keys[k] = struct{}{}
	}
	for k := range p.wrote {
		keys[k] = struct{}{}
	}
	var rows []api.Row
	for _, k := range slices.Sorted(maps.Keys(keys)) {
		if v, is := p.get(k); is && k >= key && (high == "" || k < high) {
			rows = append(rows, api.Row{Key: k, Val: v})
		}
	}
	return rows
}

// do does a call that reads or writes, which may be.
func (p plain) do(c api.Call) api.Reply {
	val, is := p.get(c.Key)
	_, own := p.wrote[c.Key]
	switch c.Kind {
	case api.CGet:
		return api.Reply{Found: is, Val: val}
	case api.CScan:
		return api.Reply{Rows: p.scan(c.Key, c.High)}
	case api.CInsert:
		if is {
			return api.Reply{Code: api.ErrTxnHas}
		}
	case api.CUpdate, api.CDelete:
		if !is {
			return api.Reply{Code: api.ErrTxnMissing}
		}
	}
	if !own && len(p.wrote) == 64 {
		return api.Reply{Code: api.ErrTxnFull}
	}
	p.wrote[c.Key] = nil
	if c.Kind != api.CDelete {
		p.wrote[c.Key] = &c.Val
	}
	return api.Reply{}
}

// stand is the table behind what a transaction has written.
func (t table) stand(wrote written, time int64) table {
	now := maps.Clone(t)
	for k, v := range wrote {
		delete(now, k)
		if v != nil {
			now[k] = api.Row{Key: k, Val: *v, Time: time}
		}
	}
	return now
}

func sameReply(a, b api.Reply) bool {
	return a.Code == b.Code && a.Val == b.Val && a.Found == b.Found && a.Time == b.Time && a.N == b.N && slices.Equal(a.Rows, b.Rows)
}

func aborts(code api.Errno) bool {
	return code == api.ErrTxnConflict || code == api.ErrTxnDeadlock || code == api.ErrTxnFull || code == api.ErrTxnTime
}

// deal is a transaction, as it was seen from outside.
type deal struct {
	begun     int // the moment at which its CBegin was asked
	calls     []api.Call
	replies   []api.Reply
	committed bool
	time      int64
	ended     int // the moment at which its CCommit was answered
}

// explains: does a table answer all of a transaction's calls just so? What it has written.
func (t table) explains(d *deal) (written, error) {
	p := plain{rows: t, wrote: written{}}
	for i, c := range d.calls {
		if r := p.do(c); !sameReply(r, d.replies[i]) {
			return nil, fmt.Errorf("%v was answered %v, not %v", c, d.replies[i], r)
		}
	}
	return p.wrote, nil
}

// story is what was asked and answered, from the rows on with which a memory began.
type story struct {
	m     *txn.Memory
	rows  []api.Row
	now   int
	deals []*deal
	open  [16]*deal
	asked [16]api.Call
	begun [16]int
	under [16]bool
	steps [16]int // of the call under way
	calls [16]int // of the transaction
	keys  map[string]struct{}
	ends  map[api.Errno]int // how many calls were answered so
	fault error
}

func newStory(m *txn.Memory, rows []api.Row) *story {
	s := &story{m: m, rows: rows, keys: map[string]struct{}{}, ends: map[api.Errno]int{}}
	for _, r := range rows {
		s.keys[r.Key] = struct{}{}
	}
	return s
}

func (s *story) fail(format string, args ...any) {
	if s.fault == nil {
		s.fault = fmt.Errorf(format, args...)
	}
}

func (s *story) start(w int, c api.Call) {
	if e := s.m.Start(w, c); e != api.OK {
		s.fail("Start(%d, %v): %v", w, c, e)
		return
	}
	s.now++
	s.asked[w], s.begun[w], s.under[w], s.steps[w] = c, s.now, true, 0
	s.calls[w]++
	if c.Kind == api.CInsert || c.Kind == api.CGet || c.Kind == api.CUpdate || c.Kind == api.CDelete {
		s.keys[c.Key] = struct{}{}
	}
}

// most is how many steps a call may take that is stepped again and again, as all others are.
func (s *story) most(w int) int { return 20000 + 4*s.bound(w) }

// bound is (1 + l) (1 + k) (100 + 2 k), l being how many calls the worker's transaction has had, k how many keys there may be.
func (s *story) bound(w int) int {
	k, l := len(s.keys), s.calls[w]
	return (1 + l) * (1 + k) * (100 + 2*k)
}

// step does one of a worker's call; true: it is answered by it.
func (s *story) step(w int) (api.Reply, bool) {
	s.now++
	s.steps[w]++
	if !s.m.Step(w) {
		s.fail("worker %d: no step", w)
	}
	r, is := s.m.Reply(w)
	if !is {
		return r, false
	}
	s.now++
	s.under[w] = false
	s.ends[r.Code]++
	s.note(w, r)
	if has := s.open[w] != nil; has != s.m.Has(w) {
		s.fail("worker %d: Has is %t behind %v %v", w, !has, s.asked[w], r)
	}
	return r, true
}

// note keeps a reply, and whether it may be one of this call.
func (s *story) note(w int, r api.Reply) {
	c, d := s.asked[w], s.open[w]
	switch {
	case c.Kind == api.CBegin:
		s.open[w], s.calls[w] = &deal{begun: s.begun[w]}, 0
		s.deals = append(s.deals, s.open[w])
		if !sameReply(r, api.Reply{}) {
			s.fail("CBegin: %v", r)
		}
	case c.Kind == api.CSweep:
	case aborts(r.Code):
		s.open[w], s.calls[w] = nil, 0
		if !sameReply(r, api.Reply{Code: r.Code}) {
			s.fail("%v: %v", c, r)
		}
	case c.Kind == api.CCommit:
		d.committed, d.time, d.ended = true, r.Time, s.now
		s.open[w], s.calls[w] = nil, 0
		if !sameReply(r, api.Reply{Time: r.Time}) {
			s.fail("CCommit: %v", r)
		}
	case c.Kind == api.CAbort:
		s.open[w], s.calls[w] = nil, 0
		if !sameReply(r, api.Reply{}) {
			s.fail("CAbort: %v", r)
		}
	default:
		d.calls, d.replies = append(d.calls, c), append(d.replies, r)
	}
}

// finish steps a worker's call alone, up to its reply.
func (s *story) finish(w int) api.Reply {
	for range api.MaxSteps {
		if r, is := s.step(w); is {
			return r
		}
	}
	s.fail("worker %d: %v is not answered", w, s.asked[w])
	return api.Reply{}
}

func (s *story) do(w int, c api.Call) api.Reply {
	if s.start(w, c); s.fault != nil {
		return api.Reply{}
	}
	return s.finish(w)
}

// chapters are the tables behind each commit, by rising timestamps, the first one as the story begins.
type chapters struct {
	times  []int64
	tables []table
}

// at is the table as it was at a time.
func (c chapters) at(time int64) table {
	i := 0
	for i+1 < len(c.times) && c.times[i+1] <= time {
		i++
	}
	return c.tables[i]
}

func (s *story) clock() int64 {
	clock := int64(0)
	for _, r := range s.rows {
		clock = max(clock, r.Time)
	}
	return clock
}

func (s *story) committed() []*deal {
	var list []*deal
	for _, d := range s.deals {
		if d.committed {
			list = append(list, d)
		}
	}
	slices.SortFunc(list, func(a, b *deal) int { return int(a.time - b.time) })
	return list
}

// told is the tables, if transactions that run one at a time, by rising timestamps, are answered just so: T1; and the others by a beginning of these.
func (s *story) told() (chapters, error) {
	list := s.committed()
	all := chapters{times: []int64{s.clock()}, tables: []table{tableOf(s.rows)}}
	for i, d := range list {
		if d.time <= all.times[i] {
			return all, fmt.Errorf("the timestamp %d behind %d", d.time, all.times[i])
		}
		wrote, err := all.tables[i].explains(d)
		if err != nil {
			return all, fmt.Errorf("committed at %d: %w", d.time, err)
		}
		all.times = append(all.times, d.time)
		all.tables = append(all.tables, all.tables[i].stand(wrote, d.time))
		for _, ahead := range list[i+1:] {
			if ahead.ended < d.begun {
				return all, fmt.Errorf("%d was answered ahead of the begin of %d", ahead.time, d.time)
			}
		}
	}
	for _, d := range s.deals {
		if err := all.explain(d, list); err != nil && !d.committed {
			return all, err
		}
	}
	return all, nil
}

// explain: is there a beginning of the committed ones, with all that were answered ahead of its begin, that explains a transaction?
func (c chapters) explain(d *deal, list []*deal) error {
	first := 0
	for i, other := range list {
		if other.ended < d.begun {
			first = i + 1
		}
	}
	var err error
	for k := first; k < len(c.tables); k++ {
		if _, err = c.tables[k].explains(d); err == nil {
			return nil
		}
	}
	return fmt.Errorf("not committed, nothing explains it from %d on: %v %v: %w", c.times[first], d.calls, d.replies, err)
}

// check: is the story right? The tables.
func (s *story) check(t *testing.T) chapters {
	t.Helper()
	all, err := s.told()
	if s.fault != nil {
		err = s.fault
	}
	if err != nil {
		t.Fatal(err)
	}
	return all
}

// Calls, as they are asked for most.
var (
	optimistic  = api.Call{Kind: api.CBegin, Mode: api.Optimistic}
	pessimistic = api.Call{Kind: api.CBegin, Mode: api.Pessimistic}
	commit      = api.Call{Kind: api.CCommit}
	abort       = api.Call{Kind: api.CAbort}
	swept       = api.Call{Kind: api.CSweep}
)

func get(key string) api.Call { return api.Call{Kind: api.CGet, Key: key} }

func scan(key, high string) api.Call { return api.Call{Kind: api.CScan, Key: key, High: high} }

func insert(key, val string) api.Call {
	return api.Call{Kind: api.CInsert, Key: key, Val: val, Draw: 1 + len(val)%3}
}

func update(key, val string) api.Call { return api.Call{Kind: api.CUpdate, Key: key, Val: val} }

func remove(key string) api.Call { return api.Call{Kind: api.CDelete, Key: key} }

func beginOf(mode int) api.Call { return api.Call{Kind: api.CBegin, Mode: mode} }

func memory(t *testing.T, log txn.Log, rows ...api.Row) *txn.Memory {
	t.Helper()
	m, e := txn.New(rows, log)
	if m == nil || e != api.OK {
		t.Fatal(e)
	}
	return m
}

// do steps a call until it is answered, by it alone.
func do(t *testing.T, m *txn.Memory, w int, c api.Call) api.Reply {
	t.Helper()
	if e := m.Start(w, c); e != api.OK {
		t.Fatalf("Start(%d, %v): %v", w, c, e)
	}
	return finish(t, m, w)
}

func finish(t *testing.T, m *txn.Memory, w int) api.Reply {
	t.Helper()
	for range api.MaxSteps {
		if !m.Step(w) {
			break
		}
	}
	r, is := m.Reply(w)
	if !is {
		t.Fatalf("worker %d is not answered", w)
	}
	return r
}

// says holds what a call is answered against what it should be.
func says(t *testing.T, m *txn.Memory, w int, c api.Call, want api.Reply) {
	t.Helper()
	if r := do(t, m, w, c); !sameReply(r, want) {
		t.Fatalf("worker %d: %v: %v, not %v", w, c, r, want)
	}
}

// fine: calls that are answered OK and nothing else.
func fine(t *testing.T, m *txn.Memory, w int, calls ...api.Call) {
	t.Helper()
	for _, c := range calls {
		says(t, m, w, c, api.Reply{})
	}
}

func code(e api.Errno) api.Reply { return api.Reply{Code: e} }

func found(val string) api.Reply { return api.Reply{Found: true, Val: val} }

func at(time int64) api.Reply { return api.Reply{Time: time} }

// rowsOf are rows of keys and values in turn, without timestamps.
func rowsOf(texts ...string) api.Reply {
	var rows []api.Row
	for i := 0; i+1 < len(texts); i += 2 {
		rows = append(rows, api.Row{Key: texts[i], Val: texts[i+1]})
	}
	return api.Reply{Rows: rows}
}

func row(key, val string, time int64) api.Row { return api.Row{Key: key, Val: val, Time: time} }

func hasRows(t *testing.T, got []api.Row, want ...api.Row) {
	t.Helper()
	if !slices.Equal(got, want) {
		t.Fatalf("rows %v, not %v", got, want)
	}
}

// waits: a worker's call is stepped so often, and not answered.
func waits(t *testing.T, m *txn.Memory, w int, steps int) {
	t.Helper()
	for range steps {
		if !m.Step(w) {
			t.Fatalf("worker %d: no step", w)
		}
	}
	if r, is := m.Reply(w); is {
		t.Fatalf("worker %d is answered %v", w, r)
	}
}

func start(t *testing.T, m *txn.Memory, w int, c api.Call) {
	t.Helper()
	if e := m.Start(w, c); e != api.OK {
		t.Fatalf("Start(%d, %v): %v", w, c, e)
	}
}
