package model_test

import (
	"math"
	"slices"
	"strconv"
	"strings"
	"testing"

	"varve/api"
	"varve/model"
)

const lastTime = 1<<40 - 1

var (
	key16 = strings.Repeat("k", 16)
	key17 = strings.Repeat("k", 17)
	val64 = strings.Repeat("v", 64)
	val65 = strings.Repeat("v", 65)
)

// Calls, as they are asked for most.
var (
	begin  = api.Call{Kind: api.CBegin, Mode: api.Optimistic}
	commit = api.Call{Kind: api.CCommit}
	abort  = api.Call{Kind: api.CAbort}
	sweep  = api.Call{Kind: api.CSweep}
	all    = scan("", "")
)

func get(key string) api.Call { return api.Call{Kind: api.CGet, Key: key} }

func scan(key, high string) api.Call { return api.Call{Kind: api.CScan, Key: key, High: high} }

func insert(key, val string) api.Call { return api.Call{Kind: api.CInsert, Key: key, Val: val} }

func update(key, val string) api.Call { return api.Call{Kind: api.CUpdate, Key: key, Val: val} }

func remove(key string) api.Call { return api.Call{Kind: api.CDelete, Key: key} }

func of(kind int) api.Call { return api.Call{Kind: kind} }

func row(key, val string, time int64) api.Row { return api.Row{Key: key, Val: val, Time: time} }

func put(key, val string) api.Write { return api.Write{Key: key, Val: val} }

func gone(key string) api.Write { return api.Write{Key: key, Gone: true} }

func writes(time int64, list ...api.Write) api.Commit { return api.Commit{Time: time, Writes: list} }

// What calls are answered.
func code(e api.Errno) api.Reply { return api.Reply{Code: e} }

func found(val string) api.Reply { return api.Reply{Found: true, Val: val} }

func at(time int64) api.Reply { return api.Reply{Time: time} }

// rowsOf are rows of keys and values in turn, without timestamps.
func rowsOf(texts ...string) api.Reply {
	var rows []api.Row
	for i := 0; i+1 < len(texts); i += 2 {
		rows = append(rows, row(texts[i], texts[i+1], 0))
	}
	return api.Reply{Rows: rows}
}

func sameReply(a, b api.Reply) bool {
	return a.Code == b.Code && a.Val == b.Val && a.Found == b.Found && a.Time == b.Time && a.N == b.N && slices.Equal(a.Rows, b.Rows)
}

func newModel(t *testing.T, rows ...api.Row) *model.Model {
	t.Helper()
	m, e := model.New(rows)
	if m == nil || e != api.OK {
		t.Fatalf("New: %v %v", m, e)
	}
	return m
}

func says(t *testing.T, m *model.Model, c api.Call, want api.Reply) {
	t.Helper()
	if got := m.Do(c); !sameReply(got, want) {
		t.Fatalf("%v: %v, not %v", c, got, want)
	}
}

// fine: calls that are answered OK and nothing else.
func fine(t *testing.T, m *model.Model, calls ...api.Call) {
	t.Helper()
	for _, c := range calls {
		says(t, m, c, api.Reply{})
	}
}

// has holds what stands against what should.
func has(t *testing.T, m *model.Model, time int64, rows ...api.Row) {
	t.Helper()
	if got := m.Rows(); !slices.Equal(got, rows) {
		t.Fatalf("rows %v, not %v", got, rows)
	}
	if got := m.Time(); got != time {
		t.Fatalf("time %d, not %d", got, time)
	}
}

func applied(t *testing.T, m *model.Model, c api.Commit, want api.Errno) {
	t.Helper()
	if e := m.Apply(c); e != want {
		t.Fatalf("Apply(%v): %v, not %v", c, e, want)
	}
}

// many are n rows, at 10.
func many(n int) []api.Row {
	var rows []api.Row
	for i := range n {
		rows = append(rows, row(name(i), strconv.Itoa(i), 10))
	}
	return rows
}

// name is a key; they rise.
func name(i int) string { return strconv.Itoa(10000 + i) }

// The chapter's table.
func TestExamples(t *testing.T) {
	m := newModel(t, row("a", "x", 5))
	says(t, m, get("a"), code(api.ErrTxnNone))
	fine(t, m, begin)
	says(t, m, get("a"), found("x"))
	says(t, m, get("b"), api.Reply{})

	says(t, m, insert("a", "y"), code(api.ErrTxnHas))
	fine(t, m, insert("b", "y"))
	says(t, m, update("c", "z"), code(api.ErrTxnMissing))
	fine(t, m, remove("a"))
	says(t, m, all, rowsOf("b", "y"))

	says(t, m, api.Call{Kind: api.CBegin, Mode: api.Pessimistic}, code(api.ErrTxnOpen))
	says(t, m, sweep, code(api.ErrTxnOpen))
	says(t, m, commit, at(6))
	has(t, m, 6, row("b", "y", 6))

	fine(t, m, begin, remove("b"), abort)
	has(t, m, 6, row("b", "y", 6))
	fine(t, m, sweep)
	says(t, m, of(12), code(api.ErrTxnCall))
	says(t, m, api.Call{Kind: api.CBegin, Mode: 3}, code(api.ErrTxnCall))

	applied(t, m, writes(9, put("a", "q")), api.OK)
	applied(t, m, writes(9), api.ErrModelForm)
	has(t, m, 9, row("a", "q", 9), row("b", "y", 6))
}

// Errors: their numbers.
func TestErrorsNumbers(t *testing.T) {
	list := []api.Errno{api.ErrNil, api.ErrModelForm, api.ErrTxnCall, api.ErrTxnNone, api.ErrTxnOpen, api.ErrTxnKey, api.ErrTxnValue, api.ErrTxnHas, api.ErrTxnMissing, api.ErrTxnFull, api.ErrTxnTime}
	if !slices.Equal(list, []api.Errno{1, 180, 151, 152, 153, 154, 155, 156, 157, 160, 161}) {
		t.Error(list)
	}
}

// P18.1: rows that are right, and rise.
func TestNew(t *testing.T) {
	long := many(5000) // no count is too great
	for _, c := range []struct {
		rows []api.Row
		time int64
	}{
		{nil, 0},
		{[]api.Row{}, 0},
		{[]api.Row{row("a", "", 0)}, 0},
		{[]api.Row{row("a", "x", lastTime)}, lastTime},
		{[]api.Row{row(key16, val64, 1)}, 1},
		{[]api.Row{row("a", "x", 1), row("b", "x", 9), row("c", "x", 4)}, 9},
		{[]api.Row{row("a", "x", 9), row("b", "x", 9)}, 9},
		{[]api.Row{row("a", "x", 9), row("b", "x", 0)}, 9},
		{[]api.Row{row("\x00", "\xff\x00", 1), row("\x00\x00", "", 2), row("A", "", 3), row("a", "", 3), row("a\x00", "", 3), row("aa", "", 3), row("b", "", 3), row("\x80", "", 3), row("\xc3\xa4", "", 3), row("\xff", "", 3)}, 3},
		{long, 10},
	} {
		m := newModel(t, c.rows...)
		has(t, m, c.time, c.rows...)
		says(t, m, commit, code(api.ErrTxnNone)) // it has no transaction
	}
	if m, e := model.New([]api.Row{}); m == nil || e != api.OK || len(m.Rows()) != 0 {
		t.Error("an empty list is none")
	}
}

// P18.1: rows that are not right, or do not rise, wherever they stand.
func TestNewRefuses(t *testing.T) {
	refuses := func(rows ...api.Row) {
		t.Helper()
		if m, e := model.New(rows); m != nil || e != api.ErrModelForm {
			t.Errorf("New(%v): %v %v", rows, m, e)
		}
	}
	for _, wrong := range []api.Row{
		row("", "x", 1), row(key17, "x", 1), row("m"+strings.Repeat("k", 300), "x", 1),
		row("m", val65, 1), row("m", strings.Repeat(val64, 9), 1),
		row("m", "x", -1), row("m", "x", lastTime+1), row("m", "x", lastTime+2), row("m", "x", math.MinInt64), row("m", "x", math.MaxInt64),
	} {
		refuses(wrong)
		refuses(wrong, row("z", "x", 1))
		refuses(row("a", "x", 1), wrong)
		refuses(row("a", "x", 1), wrong, row("z", "x", 1))
	}
	a, b, c := row("a", "x", 1), row("b", "x", 2), row("c", "x", 3)
	refuses(a, a)
	refuses(b, a)
	refuses(a, b, b)
	refuses(a, a, b)
	refuses(a, c, b)
	refuses(b, a, c)
	refuses(c, b, a)
	refuses(a, row("a", "y", 9))
	refuses(row("a\x00", "", 1), row("a", "", 1))
	refuses(row("a", "", 1), row("B", "", 1))
	refuses(row("\xff", "", 1), row("z", "", 1))
}

// P18.2: keys and values of each length, and any bytes.
func TestLengths(t *testing.T) {
	m := newModel(t)
	fine(t, m, begin)
	for n := range 20 {
		key := strings.Repeat("\xff", n)
		if n == 0 || n > 16 {
			for _, c := range []api.Call{get(key), insert(key, "x"), update(key, "x"), remove(key)} {
				says(t, m, c, code(api.ErrTxnKey))
			}
			continue
		}
		fine(t, m, get(key), insert(key, "x"), update(key, "\x00"))
		says(t, m, get(key), found("\x00"))
		fine(t, m, remove(key), get(key))
	}
	for n := range 70 {
		val := strings.Repeat("\xfe", n)
		if n > 64 {
			says(t, m, insert("a", val), code(api.ErrTxnValue))
			says(t, m, insert("b", val), code(api.ErrTxnValue))
			says(t, m, update("b", val), code(api.ErrTxnValue))
			continue
		}
		fine(t, m, insert("b", ""), update("b", val))
		says(t, m, get("b"), found(val))
		fine(t, m, remove("b"), insert("b", val))
		says(t, m, get("b"), found(val))
		fine(t, m, remove("b"))
	}
	says(t, m, all, api.Reply{})
}

// P18.2: Key and High, empty and not; all by rising keys.
func TestScan(t *testing.T) {
	m := newModel(t, row("a", "1", 1), row("a\x00", "2", 1), row("b", "3", 1), row("c", "4", 1), row("\x80", "5", 2))
	fine(t, m, begin, remove("b"), insert("ab", "6"), update("c", "7"), insert("B", "8"), insert("bb", "9"), remove("bb"))
	rows := []string{"B", "8", "a", "1", "a\x00", "2", "ab", "6", "c", "7", "\x80", "5"}
	for _, c := range []struct {
		key, high string
		from, to  int
	}{
		{"", "", 0, 6}, {"", "\x00", 0, 0}, {"\x00", "", 0, 6}, {"", "\xff", 0, 6}, {"\xff", "", 6, 6}, {"", "\x80", 0, 5}, {"", "\x80\x00", 0, 6},
		{"B", "", 0, 6}, {"B\x00", "", 1, 6}, {"a", "", 1, 6}, {"a\x00", "", 2, 6}, {"b", "", 4, 6}, {"bb", "", 4, 6}, {"\x80", "", 5, 6},
		{"", "a", 0, 1}, {"", "a\x00", 0, 2}, {"", "ab", 0, 3}, {"", "b", 0, 4}, {"", "c", 0, 4}, {"", "c\x00", 0, 5},
		{"a", "b", 1, 4}, {"a", "a\x00", 1, 2}, {"a\x00", "ab", 2, 3}, {"ab", "c", 3, 4}, {"b", "c", 4, 4},
		{"a", "a", 6, 6}, {"c", "a", 6, 6}, {"\x80", "a", 6, 6}, {key16, "", 5, 6}, {"", key16, 0, 5}, {key16, key16, 6, 6},
	} {
		says(t, m, scan(c.key, c.high), rowsOf(rows[2*c.from:2*c.to]...))
	}
	says(t, m, scan(key17, ""), code(api.ErrTxnKey))
	says(t, m, scan("", key17), code(api.ErrTxnKey))
	says(t, m, scan(key17, key17), code(api.ErrTxnKey))
	says(t, m, scan("a", key17), code(api.ErrTxnKey))
}

// P18.2: a transaction reads what it has written, whatever it has done to the key ahead of that.
func TestReadsItsWrites(t *testing.T) {
	m := newModel(t, row("b", "old", 3), row("d", "old", 4))
	steps := []struct {
		call  api.Call
		reply api.Reply
		rows  api.Reply
	}{
		{insert("a", "1"), api.Reply{}, rowsOf("a", "1", "b", "old", "d", "old")},
		{insert("a", "2"), code(api.ErrTxnHas), rowsOf("a", "1", "b", "old", "d", "old")},
		{remove("a"), api.Reply{}, rowsOf("b", "old", "d", "old")},
		{remove("a"), code(api.ErrTxnMissing), rowsOf("b", "old", "d", "old")},
		{update("a", "2"), code(api.ErrTxnMissing), rowsOf("b", "old", "d", "old")},
		{insert("a", "3"), api.Reply{}, rowsOf("a", "3", "b", "old", "d", "old")},
		{update("a", ""), api.Reply{}, rowsOf("a", "", "b", "old", "d", "old")},
		{update("b", "4"), api.Reply{}, rowsOf("a", "", "b", "4", "d", "old")},
		{insert("b", "5"), code(api.ErrTxnHas), rowsOf("a", "", "b", "4", "d", "old")},
		{remove("b"), api.Reply{}, rowsOf("a", "", "d", "old")},
		{update("b", "5"), code(api.ErrTxnMissing), rowsOf("a", "", "d", "old")},
		{insert("b", "6"), api.Reply{}, rowsOf("a", "", "b", "6", "d", "old")},
		{update("b", "7"), api.Reply{}, rowsOf("a", "", "b", "7", "d", "old")},
		{remove("d"), api.Reply{}, rowsOf("a", "", "b", "7")},
	}
	for _, mode := range []int{api.Optimistic, api.Pessimistic} {
		fine(t, m, api.Call{Kind: api.CBegin, Mode: mode})
		for _, s := range steps {
			says(t, m, s.call, s.reply)
			says(t, m, all, s.rows)
			for _, key := range []string{"a", "b", "c", "d"} {
				want := api.Reply{}
				if i := slices.IndexFunc(s.rows.Rows, func(r api.Row) bool { return r.Key == key }); i >= 0 {
					want = found(s.rows.Rows[i].Val)
				}
				says(t, m, get(key), want)
				// Key to the key behind it: that one alone.
				if want.Found {
					says(t, m, scan(key, key+"\x00"), rowsOf(key, want.Val))
				} else {
					says(t, m, scan(key, key+"\x00"), api.Reply{})
				}
			}
			has(t, m, 4, row("b", "old", 3), row("d", "old", 4))
		}
		if mode == api.Optimistic {
			fine(t, m, abort)
			has(t, m, 4, row("b", "old", 3), row("d", "old", 4))
		}
	}
	says(t, m, commit, at(5))
	has(t, m, 5, row("a", "", 5), row("b", "7", 5))
	fine(t, m, begin)
	says(t, m, all, rowsOf("a", "", "b", "7"))
}

// P18.2: what comes of a key that was, or was not, there, and of a value that is the same.
func TestCommitLeaves(t *testing.T) {
	for _, c := range []struct {
		calls []api.Call
		rows  []api.Row
	}{
		{nil, []api.Row{row("a", "x", 5)}},
		{[]api.Call{all, of(api.CScan)}, []api.Row{row("a", "x", 5)}},
		{[]api.Call{insert("b", "y"), remove("b")}, []api.Row{row("a", "x", 5)}},
		{[]api.Call{insert("b", "y"), remove("b"), insert("b", "z")}, []api.Row{row("a", "x", 5), row("b", "z", 8)}},
		{[]api.Call{remove("a")}, nil},
		{[]api.Call{remove("a"), insert("a", "y")}, []api.Row{row("a", "y", 8)}},
		{[]api.Call{remove("a"), insert("a", "x")}, []api.Row{row("a", "x", 8)}},
		{[]api.Call{remove("a"), insert("a", "y"), remove("a")}, nil},
		{[]api.Call{update("a", "x")}, []api.Row{row("a", "x", 8)}},
		{[]api.Call{update("a", "y"), update("a", "x")}, []api.Row{row("a", "x", 8)}},
		{[]api.Call{update("a", "y"), remove("a")}, nil},
	} {
		m := newModel(t, row("a", "x", 5))
		applied(t, m, writes(7), api.OK)
		fine(t, m, begin)
		for _, call := range c.calls {
			if r := m.Do(call); r.Code != api.OK {
				t.Fatal(call, r)
			}
		}
		has(t, m, 7, row("a", "x", 5))
		says(t, m, commit, at(8))
		has(t, m, 8, c.rows...)
		says(t, m, commit, code(api.ErrTxnNone))
		fine(t, m, begin)
		says(t, m, commit, at(9))
		has(t, m, 9, c.rows...)
	}
}

// P18.2: 64 keys that a transaction has written, whatever became of them, and no other one.
func TestTooManyWrites(t *testing.T) {
	for _, change := range []api.Call{insert("z", "1"), update(name(100), "1"), remove(name(101))} {
		m := newModel(t, many(110)...)
		fine(t, m, begin)
		for i := range 64 {
			key := name(i)
			switch i % 4 {
			case 0:
				fine(t, m, update(key, "own"), update(key, "again"))
			case 1:
				fine(t, m, remove(key))
			case 2:
				fine(t, m, insert("n"+key, "own"), remove("n"+key))
			case 3:
				fine(t, m, remove(key), insert(key, "own"))
			}
		}
		// Those that it wrote may be written again; what may not be is told, and ends nothing; reading is no writing.
		fine(t, m, update(name(0), "more"), insert(name(1), "back"), remove(name(1)), insert("n"+name(2), "back"), remove("n"+name(2)), update(name(3), "more"))
		says(t, m, insert(name(100), "1"), code(api.ErrTxnHas))
		says(t, m, update("zz", "1"), code(api.ErrTxnMissing))
		says(t, m, remove("zz"), code(api.ErrTxnMissing))
		says(t, m, remove(name(1)), code(api.ErrTxnMissing))
		says(t, m, get(name(100)), found("100"))
		says(t, m, get("zz"), api.Reply{})
		says(t, m, change, code(api.ErrTxnFull))

		says(t, m, get(name(0)), code(api.ErrTxnNone))
		has(t, m, 10, many(110)...)
		fine(t, m, begin)
		says(t, m, scan("", name(2)), rowsOf(name(0), "0", name(1), "1"))
		// The one that is over does not count for this one.
		for i := range 64 {
			fine(t, m, remove(name(i)))
		}
		says(t, m, commit, at(11))
		has(t, m, 11, many(110)[64:]...)
	}
}

// P18.2: calls that were refused have written nothing, and do not count.
func TestRefusedAreNoWrites(t *testing.T) {
	m := newModel(t, many(200)...)
	fine(t, m, begin)
	for i := range 63 {
		fine(t, m, update(name(i), "own"))
	}
	for i := 70; i < 140; i++ {
		says(t, m, insert(name(i), ""), code(api.ErrTxnHas))
		says(t, m, update("n"+name(i), ""), code(api.ErrTxnMissing))
		says(t, m, remove("n"+name(i)), code(api.ErrTxnMissing))
		says(t, m, update(name(i), val65), code(api.ErrTxnValue))
		says(t, m, insert("n"+name(i), val65), code(api.ErrTxnValue))
		says(t, m, begin, code(api.ErrTxnOpen))
		says(t, m, get("n"+name(i)), api.Reply{})
	}
	fine(t, m, update(name(150), "own"))
	says(t, m, update(name(151), "own"), code(api.ErrTxnFull))
}

// P18.2: the greatest time that there is room for, and the one behind it.
func TestLastTimes(t *testing.T) {
	m := newModel(t, row("a", "x", lastTime-2))
	fine(t, m, begin, update("a", "y"))
	says(t, m, commit, at(lastTime-1))
	fine(t, m, begin, insert("b", "y"))
	says(t, m, commit, at(lastTime))
	has(t, m, lastTime, row("a", "y", lastTime-1), row("b", "y", lastTime))
	for _, calls := range [][]api.Call{nil, {insert("c", "z")}, {update("a", "z"), remove("b")}, {all}} {
		fine(t, m, begin)
		for _, c := range calls {
			if r := m.Do(c); r.Code != api.OK {
				t.Fatal(c, r)
			}
		}
		says(t, m, commit, code(api.ErrTxnTime))
		has(t, m, lastTime, row("a", "y", lastTime-1), row("b", "y", lastTime))
		says(t, m, abort, code(api.ErrTxnNone))
	}
	fine(t, m, begin)
	says(t, m, all, rowsOf("a", "y", "b", "y"))
	fine(t, m, abort)
	applied(t, m, writes(lastTime), api.ErrModelForm)
	applied(t, m, writes(lastTime+1), api.ErrModelForm)

	// As Apply comes to it.
	m = newModel(t)
	applied(t, m, writes(lastTime, put("a", "x")), api.OK)
	fine(t, m, begin)
	says(t, m, commit, code(api.ErrTxnTime))
	has(t, m, lastTime, row("a", "x", lastTime))
}

// P18.2: whatever was written, nothing of it stands behind CAbort.
func TestAbort(t *testing.T) {
	rows := []api.Row{row("a", "x", 5), row("b", "y", 2)}
	m := newModel(t, rows...)
	fine(t, m, begin, update("a", "1"), remove("b"), insert("c", "2"), insert("d", "3"), remove("d"), abort)
	has(t, m, 5, rows...)
	says(t, m, abort, code(api.ErrTxnNone))
	fine(t, m, begin)
	says(t, m, all, rowsOf("a", "x", "b", "y"))
	says(t, m, insert("b", ""), code(api.ErrTxnHas))
	says(t, m, remove("c"), code(api.ErrTxnMissing))
	says(t, m, commit, at(6))
	has(t, m, 6, rows...)
}

// P18.2: calls that are nothing to a map leave it as it is.
func TestNothingToDo(t *testing.T) {
	m := newModel(t, row("a", "x", 5))
	for _, kind := range []int{api.CCheckpoint, api.CMerge, api.CSweep} {
		for _, n := range []int{0, 1, -1, 99} {
			fine(t, m, api.Call{Kind: kind, N: n})
			has(t, m, 5, row("a", "x", 5))
		}
	}
	says(t, m, get("a"), code(api.ErrTxnNone))
}

// P18.3: Rows and Time tell what stands, and not what is not committed.
func TestRowsAndTimeWhileOpen(t *testing.T) {
	m := newModel(t, row("b", "x", 5), row("c", "y", 9))
	for _, c := range []api.Call{begin, insert("a", "1"), update("b", "2"), remove("c"), insert("c", "3"), all} {
		if r := m.Do(c); r.Code != api.OK {
			t.Fatal(c, r)
		}
		has(t, m, 9, row("b", "x", 5), row("c", "y", 9))
	}
	says(t, m, commit, at(10))
	has(t, m, 10, row("a", "1", 10), row("b", "2", 10), row("c", "3", 10))
}

// P18.3: a commit's writes stand, at whatever time above the model's.
func TestApply(t *testing.T) {
	m := newModel(t, row("a", "x", 5), row("b", "y", 3))
	applied(t, m, writes(6), api.OK)
	has(t, m, 6, row("a", "x", 5), row("b", "y", 3))
	applied(t, m, writes(9, put("a", "x"), gone("b"), put("c", "")), api.OK)
	has(t, m, 9, row("a", "x", 9), row("c", "", 9))
	applied(t, m, writes(100, gone("b"), gone("c"), gone("d")), api.OK) // b and d are not there
	has(t, m, 100, row("a", "x", 9))
	applied(t, m, writes(101, put(key16, val64)), api.OK)
	has(t, m, 101, row("a", "x", 9), row(key16, val64, 101))
	var list []api.Write
	for i := range 64 {
		list = append(list, put(name(i), strconv.Itoa(i)))
	}
	applied(t, m, writes(1<<39, list...), api.OK)
	if len(m.Rows()) != 66 || m.Time() != 1<<39 {
		t.Error(m.Rows(), m.Time())
	}
	fine(t, m, begin)
	says(t, m, get(name(7)), found("7"))
	says(t, m, commit, at(1<<39+1))
	applied(t, newModel(t), writes(1), api.OK)
}

// P18.3: a commit that is not right, or too early, and a transaction that is there.
func TestApplyRefuses(t *testing.T) {
	rows := []api.Row{row("a", "x", 5), row("b", "y", 8)}
	m := newModel(t, rows...)
	var list []api.Write
	for i := range 65 {
		list = append(list, put(name(i), ""))
	}
	wrong := []api.Commit{writes(9, list...), writes(9, append(slices.Clone(list[:64]), gone("z"))...)}
	for _, time := range []int64{8, 7, 5, 1, 0, -1, math.MinInt64, lastTime + 1, lastTime + 2, math.MaxInt64} {
		wrong = append(wrong, writes(time), writes(time, put("c", "z")))
	}
	for _, w := range []api.Write{
		put("", "z"), put(key17, "z"), put("c", val65), gone(""), gone(key17), gone(strings.Repeat("c", 300)),
		{Key: "c", Val: "z", Gone: true}, {Key: "a", Val: "x", Gone: true}, {Key: "c", Val: val65, Gone: true},
	} {
		wrong = append(wrong, writes(9, w), writes(9, put("A", "z"), w), writes(9, w, put("z", "z")))
	}
	a, b, c := put("a", "1"), put("b", "2"), put("c", "3")
	for _, l := range [][]api.Write{{a, a}, {b, a}, {a, c, b}, {b, a, c}, {a, b, b}, {a, gone("a")}, {gone("a"), a}, {gone("b"), gone("a")}, {put("a\x00", ""), put("a", "")}} {
		wrong = append(wrong, writes(9, l...))
	}
	for _, c := range wrong {
		applied(t, m, c, api.ErrModelForm)
		has(t, m, 8, rows...)
	}
	right := writes(9, put("c", "z"))
	fine(t, m, begin)
	applied(t, m, right, api.ErrModelForm)
	fine(t, m, update("a", "own"))
	applied(t, m, right, api.ErrModelForm)
	has(t, m, 8, rows...)
	says(t, m, all, rowsOf("a", "own", "b", "y"))
	fine(t, m, abort)
	applied(t, m, right, api.OK)
	has(t, m, 9, append(rows, row("c", "z", 9))...)

	// At no rows the time is 0, which is not above 0.
	m = newModel(t)
	applied(t, m, writes(0), api.ErrModelForm)
	applied(t, m, writes(0, put("a", "x")), api.ErrModelForm)
	has(t, m, 0)
}

// wipe writes all over a list, spare room too.
func wipe(rows []api.Row) {
	for i := range rows[:cap(rows)] {
		rows[:cap(rows)][i] = row("wiped", "wiped", -7)
	}
}

// R3: what is handed in is left, and not kept; what is answered is new memory.
func TestMemory(t *testing.T) {
	kept := []api.Row{row("a", "x", 5), row("b", "y", 6), row("c", "z", 7), row("spare", "", 9)}
	rows := slices.Clone(kept)
	m := newModel(t, rows[:2]...)
	list := []api.Write{put("b", "1"), gone("c"), put("d", "2"), put("spare", "3")}
	given := slices.Clone(list)
	applied(t, m, writes(9, given[:3]...), api.OK)
	fine(t, m, begin, insert("e", "4"), remove("a"))
	says(t, m, commit, at(10))
	if !slices.Equal(rows, kept) || !slices.Equal(given, list) {
		t.Error("what was handed in was written into", rows, given)
	}
	wipe(rows)
	clear(given)
	want := []api.Row{row("b", "1", 9), row("d", "2", 9), row("e", "4", 10)}
	has(t, m, 10, want...)

	wipe(m.Rows())
	has(t, m, 10, want...)
	fine(t, m, begin, update("b", "5"), insert("f", "6"))
	first, second := m.Do(all), m.Do(all)
	wipe(first.Rows)
	if !sameReply(second, rowsOf("b", "5", "d", "2", "e", "4", "f", "6")) {
		t.Error(second)
	}
	says(t, m, all, second)
	has(t, m, 10, want...)
	left, right := m.Rows(), m.Rows()
	wipe(left)
	if !slices.Equal(right, want) {
		t.Error(right)
	}
	says(t, m, commit, at(11))
	if !slices.Equal(right, want) {
		t.Error("rows that were told have changed", right)
	}
	if l := newModel(t).Rows(); len(l) != 0 {
		t.Error(l)
	}
}

// P18.2, P18.3, R4: of a nil model, whatever else is wrong; of one that no call gave likewise.
func TestNil(t *testing.T) {
	for _, m := range []*model.Model{nil, {}} {
		for kind := -1; kind <= 13; kind++ {
			says(t, m, of(kind), code(api.ErrNil))
			says(t, m, api.Call{Kind: kind, Mode: 1, Key: "a", Val: "x"}, code(api.ErrNil))
			says(t, m, api.Call{Kind: kind, Key: key17, High: key17, Val: val65}, code(api.ErrNil))
		}
		applied(t, m, writes(1, put("a", "x")), api.ErrNil)
		applied(t, m, writes(-1), api.ErrNil)
		if len(m.Rows()) != 0 || m.Time() != 0 {
			t.Error(m.Rows(), m.Time())
		}
	}
}

// R4: two models know nothing of one another.
func TestTwoModels(t *testing.T) {
	rows := []api.Row{row("a", "x", 5)}
	one, two := newModel(t, rows...), newModel(t, rows...)
	fine(t, one, begin, update("a", "y"))
	says(t, two, get("a"), code(api.ErrTxnNone))
	applied(t, two, writes(9, gone("a")), api.OK)
	says(t, one, get("a"), found("y"))
	says(t, one, commit, at(6))
	has(t, one, 6, row("a", "y", 6))
	has(t, two, 9)
}
