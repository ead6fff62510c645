package model_test

import (
	"math"
	"slices"
	"testing"

	"varve/api"
	"varve/model"
)

// asks are calls of all Kinds, and of none, with fields that may be, and that may not be, in all ways together.
func asks() []api.Call {
	var calls []api.Call
	for _, kind := range []int{math.MinInt, -1, 0, 1, 2, 3, 4, 5, 6, 7, 8, 9, 10, 11, 12, 13, 1 << 32, 1<<32 + 1, math.MaxInt} {
		for _, mode := range []int{-1, 0, 1, 2, 3, 1<<32 + 1} {
			for _, key := range []string{"", "a", "b", "c", "d", "e", key16, key17} {
				for _, high := range []string{"", "c", key16, key17} {
					for _, val := range []string{"", "y", val64, val65} {
						calls = append(calls, api.Call{Kind: kind, Mode: mode, Key: key, High: high, Val: val})
					}
				}
			}
		}
	}
	return calls
}

// fill makes a model with a transaction, if there is to be one: it has changed b, taken c away, put d in, and put e in and taken it away.
func fill(t *testing.T, open bool) *model.Model {
	t.Helper()
	m := newModel(t, row("a", "1", 5), row("b", "2", 3), row("c", "3", 4))
	if open {
		fine(t, m, begin, update("b", "4"), remove("c"), insert("d", "5"), insert("e", "6"), remove("e"))
	}
	return m
}

// firstOf is the first error, where there is a transaction, and where there is none.
func firstOf(c api.Call, open bool) api.Errno {
	there := slices.Contains([]string{"a", "b", "c"}, c.Key)
	if open {
		there = slices.Contains([]string{"a", "b", "d"}, c.Key)
	}
	switch {
	case c.Kind < 1 || c.Kind > 11:
		return api.ErrTxnCall
	case c.Kind == 1 || c.Kind >= 9:
		if open {
			return api.ErrTxnOpen
		}
		if c.Kind == 1 && (c.Mode < 1 || c.Mode > 2) {
			return api.ErrTxnCall
		}
		return api.OK
	case !open:
		return api.ErrTxnNone
	case c.Kind == api.CScan:
		if c.Key == key17 || c.High == key17 {
			return api.ErrTxnKey
		}
		return api.OK
	case c.Kind >= 7:
		return api.OK
	case c.Key == "" || c.Key == key17:
		return api.ErrTxnKey
	case c.Kind != api.CGet && c.Kind != api.CDelete && c.Val == val65:
		return api.ErrTxnValue
	case c.Kind == api.CInsert && there:
		return api.ErrTxnHas
	case (c.Kind == api.CUpdate || c.Kind == api.CDelete) && !there:
		return api.ErrTxnMissing
	}
	return api.OK
}

// asFilled: is all as fill left it?
func asFilled(t *testing.T, m *model.Model, open bool) {
	t.Helper()
	has(t, m, 5, row("a", "1", 5), row("b", "2", 3), row("c", "3", 4))
	if !open {
		says(t, m, get("a"), code(api.ErrTxnNone))
		return
	}
	says(t, m, all, rowsOf("a", "1", "b", "4", "d", "5"))
}

// P18.2: of each Kind the first error, also where several apply; it changes nothing, and nothing else is told beside it.
func TestFirstErrors(t *testing.T) {
	for _, open := range []bool{false, true} {
		m := fill(t, open)
		for _, c := range asks() {
			want := firstOf(c, open)
			got := m.Do(c)
			if got.Code != want {
				t.Fatalf("%v with a transaction (%v): %v, not %v", c, open, got, want)
			}
			if want == api.OK {
				m = fill(t, open)
				continue
			}
			if !sameReply(got, code(want)) {
				t.Fatalf("%v: %v", c, got)
			}
			asFilled(t, m, open)
		}
		if !open {
			continue
		}
		// What was refused has written nothing: there is room for 60 keys more.
		for i := range 60 {
			fine(t, m, insert("n"+name(i), ""))
		}
		says(t, m, insert("z", ""), code(api.ErrTxnFull))
	}
}

// R2: fields that a Kind does not name are not looked at, and are zero in what it is answered.
func TestUnusedFields(t *testing.T) {
	with := func(c api.Call) api.Call {
		c.Draw, c.N = -5, math.MaxInt
		switch c.Kind {
		case api.CBegin, api.CCommit, api.CAbort, api.CCheckpoint, api.CMerge, api.CSweep:
			c.Key, c.High, c.Val = key17, key17, val65
		case api.CScan:
			c.Val = val65
		case api.CGet, api.CDelete:
			c.High, c.Val = key17, val65
		default:
			c.High = key17
		}
		if c.Kind != api.CBegin {
			c.Mode = 77
		}
		return c
	}
	m := newModel(t, row("a", "x", 5))
	fine(t, m, with(of(api.CCheckpoint)), with(of(api.CMerge)), with(sweep), with(begin), with(insert("b", "y")), with(update("a", "z")))
	says(t, m, with(get("a")), found("z"))
	says(t, m, with(get("c")), api.Reply{})
	says(t, m, with(all), rowsOf("a", "z", "b", "y"))
	says(t, m, with(scan("b", "")), rowsOf("b", "y"))
	fine(t, m, with(remove("b")))
	says(t, m, get("b"), api.Reply{}) // it has no value, though the call had one
	fine(t, m, with(remove("a")))
	says(t, m, get("a"), api.Reply{})
	says(t, m, all, api.Reply{})
	says(t, m, with(commit), at(6))
	has(t, m, 6)
	fine(t, m, begin, with(abort))
}
