package model_test

import (
	"math/rand"
	"slices"
	"strconv"
	"testing"

	"varve/api"
	"varve/model"
	"varve/txn"
)

// changes are a transaction's calls, at random, of which none ends it.
func (r maker) changes(n int) []api.Call {
	var calls []api.Call
	for len(calls) < n {
		c := r.call()
		if c.Kind >= api.CGet && c.Kind <= api.CDelete {
			calls = append(calls, c)
		}
	}
	return calls
}

// came is what stands for a transaction now: the writes by which another table with these rows comes to the same, by rising keys.
func came(m *model.Model, wrote []string) []api.Write {
	var list []api.Write
	slices.Sort(wrote)
	for _, key := range slices.Compact(wrote) {
		if r := m.Do(get(key)); r.Found {
			list = append(list, put(key, r.Val))
		} else {
			list = append(list, gone(key))
		}
	}
	return list
}

// What follows: behind CCommit it is what Apply of the same would have made; behind CAbort, or ErrTxnFull, as if there had been none.
func TestCommitIsApply(t *testing.T) {
	ends := map[api.Errno]int{}
	for seed := range 60 {
		r := maker{rand.New(rand.NewSource(int64(seed))), []int{3, 12, 300}[seed%3]}
		one, two := newModel(t, many(70)...), newModel(t, many(70)...)
		for range 60 {
			fine(t, one, begin)
			var wrote []string
			over := false
			for _, c := range r.changes(r.Intn(50 + r.keys)) {
				reply := one.Do(c)
				over = over || reply.Code == api.ErrTxnFull
				if c.Kind >= api.CInsert && reply.Code == api.OK {
					wrote = append(wrote, c.Key)
				}
			}
			list := came(one, wrote)
			switch {
			case over:
				ends[api.ErrTxnFull]++
			case r.Intn(3) == 0:
				fine(t, one, abort)
			default:
				says(t, one, commit, at(two.Time()+1))
				applied(t, two, writes(two.Time()+1, list...), api.OK)
				ends[api.OK]++
			}
			has(t, one, two.Time(), two.Rows()...)
		}
	}
	if ends[api.OK] < 500 || ends[api.ErrTxnFull] < 50 {
		t.Error(ends)
	}
}

// What follows: CScan tells just the keys that CGet finds.
func TestScanTellsWhatGetFinds(t *testing.T) {
	for seed := range 40 {
		r := maker{rand.New(rand.NewSource(int64(seed))), []int{3, 12, 40}[seed%3]}
		m := newModel(t, row("0", "x", 1), row("2", "y", 1), row("29", "z", 3))
		for range 40 {
			fine(t, m, begin)
			for _, c := range r.changes(r.Intn(30)) {
				m.Do(c)
			}
			low, high := r.key(), r.key()
			var want []string
			for i := range r.keys {
				want = append(want, strconv.Itoa(i))
			}
			want = append(want, key16, "2", "29")
			slices.Sort(want)
			var texts []string
			for _, key := range slices.Compact(want) {
				if reply := m.Do(get(key)); reply.Found && key >= low && (high == "" || key < high) {
					texts = append(texts, key, reply.Val)
				}
			}
			wanted := rowsOf(texts...)
			if len(low) > 16 || len(high) > 16 {
				wanted = code(api.ErrTxnKey)
			}
			says(t, m, scan(low, high), wanted)
			if r.Intn(2) == 0 {
				fine(t, m, abort)
			} else {
				says(t, m, commit, at(m.Time()+1))
			}
		}
	}
}

// R4: the same calls are answered the same again.
func TestTheSameAgain(t *testing.T) {
	one, two := newModel(t, many(90)...), newModel(t, many(90)...)
	r := maker{rand.New(rand.NewSource(3)), 30}
	for range 5000 {
		c := r.call()
		says(t, one, c, two.Do(c))
	}
	has(t, one, two.Time(), two.Rows()...)
}

func aborts(e api.Errno) bool { return e == api.ErrTxnFull || e == api.ErrTxnTime }

// T5: a memory whose transactions run one at a time is answered what the model answers.
func TestMemoryAlone(t *testing.T) {
	for seed := range 30 {
		r := maker{rand.New(rand.NewSource(int64(seed))), []int{4, 30, 150}[seed%3]}
		rows := many(r.Intn(60))
		m := newModel(t, rows...)
		memory, e := txn.New(rows, nil)
		if e != api.OK {
			t.Fatal(e)
		}
		for range 1500 {
			c := r.call()
			if c.Kind == api.CCheckpoint || c.Kind == api.CMerge {
				continue // a memory has no disk
			}
			if e := memory.Start(2, c); e != api.OK {
				t.Fatal(e)
			}
			for memory.Step(2) {
			}
			got, _ := memory.Reply(2)
			if c.Kind == api.CSweep {
				got.N = 0
			}
			says(t, m, c, got)
			if c.Kind == api.CCommit || aborts(got.Code) {
				has(t, m, memory.Now(), memory.Rows(memory.Now())...)
			}
		}
	}
}
