package store_test

import (
	"fmt"
	"maps"
	"math/rand"
	"slices"
	"strings"
	"testing"

	"varve/api"
	"varve/cells"
	"varve/store"
)

// plain is a store told more plainly: what there is stands in maps, words as numbers, and cells are only counted.
type plain struct {
	free     int
	made     [3]int // nodes, versions, transactions
	nodes    map[int]*plainNode
	versions map[int]*plainVersion
	txns     map[int]uint64
}

type plainNode struct {
	head int
	lock uint64
}

type plainVersion struct {
	val        string
	begin, end uint64
	next       int
}

func newPlain(free int) *plain {
	return &plain{free: free, nodes: map[int]*plainNode{}, versions: map[int]*plainVersion{}, txns: map[int]uint64{}}
}

// request is one call, and answer what it is told; fields that the call does not use are zero.
type request struct {
	name     string
	a, b, c  int
	old, now uint64
	val      string
}

type answer struct {
	number int
	word   uint64
	done   bool
	val    string
	code   api.Errno
}

// oneStep are the calls that are one step, unless they are refused.
func oneStep() []string {
	return []string{"Head", "Begin", "End", "Next", "State", "Lock", "SetBegin", "SetEnd", "SetState", "Push", "TakeEnd", "TakeLock"}
}

func ask(s *store.Store, r request) answer {
	var a answer
	switch r.name {
	case "Node":
		a.number, a.code = s.Node()
	case "Version":
		a.number, a.code = s.Version(r.val, r.now, r.a)
	case "Txn":
		a.number, a.code = s.Txn()
	case "Head":
		a.number, a.code = s.Head(r.a)
	case "Push":
		a.done, a.code = s.Push(r.a, r.b, r.c)
	case "Begin":
		a.word, a.code = s.Begin(r.a)
	case "End":
		a.word, a.code = s.End(r.a)
	case "Next":
		a.number, a.code = s.Next(r.a)
	case "Val":
		a.val, a.code = s.Val(r.a)
	case "SetBegin":
		a.code = s.SetBegin(r.a, r.now)
	case "SetEnd":
		a.code = s.SetEnd(r.a, r.now)
	case "TakeEnd":
		a.done, a.code = s.TakeEnd(r.a, r.old, r.now)
	case "State":
		a.word, a.code = s.State(r.a)
	case "SetState":
		a.code = s.SetState(r.a, r.now)
	case "Forget":
		a.code = s.Forget(r.a)
	case "Lock":
		a.word, a.code = s.Lock(r.a)
	case "TakeLock":
		a.done, a.code = s.TakeLock(r.a, r.old, r.now)
	case "Cut":
		a.number, a.code = s.Cut(r.a)
	case "Drop":
		a.code = s.Drop(r.a)
	}
	return a
}

func (p *plain) ask(r request) answer {
	switch r.name {
	case "Node", "Version", "Txn":
		return p.create(r)
	case "Head", "Push", "Lock", "TakeLock", "Drop":
		return p.askNode(r)
	case "State", "SetState", "Forget":
		return p.askTxn(r)
	}
	return p.askVersion(r)
}

func (p *plain) create(r request) answer {
	if r.name == "Version" {
		switch {
		case len(r.val) > 64:
			return answer{code: api.ErrStoreValue}
		case !plainWord(r.now) || r.now == 1<<40:
			return answer{code: api.ErrWordForm}
		case r.a != 0 && p.versions[r.a] == nil:
			return answer{code: api.ErrStoreNone}
		}
	}
	kind := slices.Index([]string{"Node", "Version", "Txn"}, r.name)
	takes := []int{2, 3, 1}[kind]
	if p.free < takes {
		return answer{code: api.ErrCellsFull}
	}
	p.free -= takes
	p.made[kind]++
	n := p.made[kind]
	switch r.name {
	case "Node":
		p.nodes[n] = &plainNode{}
	case "Version":
		p.versions[n] = &plainVersion{val: r.val, begin: r.now, end: 1 << 40, next: r.a}
	case "Txn":
		p.txns[n] = 0
	}
	return answer{number: n}
}

func (p *plain) askNode(r request) answer {
	n := p.nodes[r.a]
	if n == nil {
		return answer{code: api.ErrStoreNone}
	}
	switch r.name {
	case "Head":
		return answer{number: n.head}
	case "Push":
		if r.b != 0 && p.versions[r.b] == nil || p.versions[r.c] == nil {
			return answer{code: api.ErrStoreNone}
		}
		return swap(&n.head, r.b, r.c)
	case "Lock":
		return answer{word: n.lock}
	case "TakeLock":
		return swap(&n.lock, r.old, r.now)
	}
	v := p.versions[n.head]
	if v == nil {
		return answer{code: api.ErrStoreNone}
	}
	delete(p.versions, n.head)
	p.free += 3
	n.head = v.next
	return answer{}
}

func (p *plain) askVersion(r request) answer {
	v := p.versions[r.a]
	if v == nil {
		return answer{code: api.ErrStoreNone}
	}
	if slices.Contains([]string{"SetBegin", "SetEnd", "TakeEnd"}, r.name) && !plainWord(r.now) {
		return answer{code: api.ErrWordForm}
	}
	switch r.name {
	case "Begin":
		return answer{word: v.begin}
	case "End":
		return answer{word: v.end}
	case "Next":
		return answer{number: v.next}
	case "Val":
		return answer{val: v.val}
	case "SetBegin":
		if r.now == 1<<40 {
			return answer{code: api.ErrWordForm}
		}
		v.begin = r.now
	case "SetEnd":
		v.end = r.now
	case "TakeEnd":
		return swap(&v.end, r.old, r.now)
	case "Cut":
		behind := p.from(v.next)
		for _, gone := range behind {
			delete(p.versions, gone)
		}
		v.next = 0
		p.free += 3 * len(behind)
		return answer{number: len(behind)}
	}
	return answer{}
}

func (p *plain) askTxn(r request) answer {
	w, is := p.txns[r.a]
	if !is {
		return answer{code: api.ErrStoreNone}
	}
	switch r.name {
	case "State":
		return answer{word: w}
	case "SetState":
		t := r.now % (1 << 62)
		if t >= 1<<40 || t != 0 && (r.now>>62 == 0 || r.now>>62 == 3) {
			return answer{code: api.ErrWordForm}
		}
		p.txns[r.a] = r.now
	case "Forget":
		delete(p.txns, r.a)
		p.free++
	}
	return answer{}
}

func swap[T comparable](at *T, old, now T) answer {
	if *at != old {
		return answer{}
	}
	*at = now
	return answer{done: true}
}

// from is the chain that begins with a version.
func (p *plain) from(version int) []int {
	var chain []int
	for v := p.versions[version]; v != nil; v = p.versions[version] {
		chain = append(chain, version)
		version = v.next
	}
	return chain
}

func (p *plain) chain(node int) []int {
	if n := p.nodes[node]; n != nil {
		return p.from(n.head)
	}
	return nil
}

func plainWord(w uint64) bool {
	return w <= 1<<40 || w > 1<<63 && w < 1<<63+1<<20
}

func pick[T any](r *rand.Rand, list []T) T { return list[r.Intn(len(list))] }

// anyNumber is mostly one that was given, of the younger ones mostly.
func anyNumber(r *rand.Rand, made int) int {
	if r.Intn(3) == 0 {
		return r.Intn(made+4) - 2
	}
	return made - r.Intn(min(made, 12)+1)
}

// anyRequest asks mostly for what may be.
func anyRequest(r *rand.Rand, p *plain) request {
	names := append(oneStep(), "Node", "Txn", "Version", "Version", "Version", "Version", "Push", "Push", "Push", "Val", "Forget", "Cut", "Drop")
	q := request{name: pick(r, names)}
	words := append(append(begins(), begins()...), 1<<40, 1<<40, pick(r, noWords()))
	switch q.name {
	case "Version":
		q.val, q.now, q.a = strings.Repeat("v", r.Intn(66)), pick(r, words), anyNumber(r, p.made[1])
	case "Head", "Lock", "Drop":
		q.a = anyNumber(r, p.made[0])
	case "Push":
		q.a, q.b, q.c = anyNumber(r, p.made[0]), anyNumber(r, p.made[1]), anyNumber(r, p.made[1])
		if n := p.nodes[q.a]; n != nil && r.Intn(4) > 0 {
			q.b = n.head
		}
	case "TakeLock":
		q.a, q.old, q.now = anyNumber(r, p.made[0]), uint64(r.Intn(3)), uint64(r.Intn(3))
	case "State", "Forget":
		q.a = anyNumber(r, p.made[2])
	case "SetState":
		q.a, q.now = anyNumber(r, p.made[2]), pick(r, []uint64{0, preparing + 5, committed + 6, aborted, aborted + 1, 7, committed + 1<<40})
	default:
		q.a, q.now, q.old = anyNumber(r, p.made[1]), pick(r, words), pick(r, words)
		if v := p.versions[q.a]; v != nil && r.Intn(2) == 0 {
			q.old = v.end
		}
	}
	return q
}

// told is all that the calls tell of what was ever made, as text.
func told(s *store.Store, p *plain) string {
	var b strings.Builder
	for n := range p.made[0] + 2 {
		fmt.Fprintln(&b, n, ask(s, request{name: "Head", a: n}), ask(s, request{name: "Lock", a: n}), s.Chain(n))
	}
	for v := range p.made[1] + 2 {
		for _, name := range []string{"Begin", "End", "Next", "Val"} {
			fmt.Fprint(&b, ask(s, request{name: name, a: v}), " ")
		}
		fmt.Fprintln(&b)
	}
	for x := range p.made[2] + 2 {
		fmt.Fprintln(&b, ask(s, request{name: "State", a: x}))
	}
	return b.String()
}

func plainTold(p *plain) string {
	var b strings.Builder
	for n := range p.made[0] + 2 {
		fmt.Fprintln(&b, n, p.ask(request{name: "Head", a: n}), p.ask(request{name: "Lock", a: n}), p.chain(n))
	}
	for v := range p.made[1] + 2 {
		for _, name := range []string{"Begin", "End", "Next", "Val"} {
			fmt.Fprint(&b, p.ask(request{name: name, a: v}), " ")
		}
		fmt.Fprintln(&b)
	}
	for x := range p.made[2] + 2 {
		fmt.Fprintln(&b, p.ask(request{name: "State", a: x}))
	}
	return b.String()
}

// foreign are cells of the arena that somebody else takes and gives back, each with a number of its own.
type foreign map[int]uint64

func (f foreign) chance(r *rand.Rand, a *cells.Arena, p *plain) {
	switch n := r.Intn(20); {
	case n == 0:
		if cell, e := a.Alloc(); e == api.OK {
			f[cell] = r.Uint64()
			a.Store(cell, f[cell])
			p.free--
		}
	case n == 1 && len(f) > 0:
		cell := slices.Min(slices.Collect(maps.Keys(f)))
		a.Free(cell)
		delete(f, cell)
		p.free++
	}
}

func (f foreign) check(t *testing.T, a *cells.Arena) {
	t.Helper()
	for cell, want := range f {
		if v, e := a.Load(cell); v != want || e != api.OK {
			t.Fatalf("another one's cell %d: %d, %v, not %d", cell, v, e, want)
		}
	}
}

// P11.1 to P11.6: calls as they come are answered as the plainer store answers them, each with as many steps as it may take, beside somebody else in the same arena.
func TestAgainstThePlainOne(t *testing.T) {
	for seed, size := range []int{1, 2, 3, 5, 8, 13, 20, 30, 50, 80, 130, 200} {
		r := rand.New(rand.NewSource(int64(seed)))
		s, a := room(t, size)
		p, f := newPlain(size), foreign{}
		for i := range 4000 {
			f.chance(r, a, p)
			q := anyRequest(r, p)
			steps := a.Steps()
			got := ask(s, q)
			steps = a.Steps() - steps
			want := p.ask(q)
			if got != want {
				t.Fatalf("size %d, call %d: %+v: %v, not %v", size, i, q, got, want)
			}
			checkSteps(t, q, want, steps)
			if a.Used() != size-p.free {
				t.Fatalf("size %d, call %d: %+v: used %d, not %d", size, i, q, a.Used(), size-p.free)
			}
			if i%40 == 0 {
				if got, want := told(s, p), plainTold(p); got != want {
					t.Fatalf("size %d, call %d: %+v:\n%s\nnot\n%s", size, i, q, got, want)
				}
				f.check(t, a)
			}
		}
	}
}

// checkSteps: a Drop that finds that its head names nothing is the one call that is refused by what it reads.
func checkSteps(t *testing.T, q request, a answer, steps int) {
	t.Helper()
	want := 0
	switch {
	case q.name == "Drop" || a.code == api.OK && slices.Contains([]string{"Node", "Version", "Txn", "Cut", "Forget"}, q.name):
		return
	case a.code == api.OK && slices.Contains(oneStep(), q.name):
		want = 1
	}
	if steps != want {
		t.Fatalf("%+v: %d steps, not %d", q, steps, want)
	}
}

// P11.5: numbers rise along no chain, and a call that is done to one node, or to a version of its chain alone, changes nothing that is in another one's alone.
func TestOtherChainsStay(t *testing.T) {
	for seed := range int64(20) {
		r := rand.New(rand.NewSource(seed))
		s, _ := room(t, 300)
		p := newPlain(300)
		for i := range 1000 {
			q := anyRequest(r, p)
			done, nodes := only(p, q), p.made[0]
			own := map[int][]int{}
			before := map[int]string{}
			for n := 1; n <= nodes; n++ {
				own[n] = alone(p, n)
				before[n] = facts(s, n, own[n])
			}
			ask(s, q)
			p.ask(q)
			for n := 1; n <= nodes; n++ {
				if after := facts(s, n, own[n]); done != 0 && n != done && before[n] != after {
					t.Fatalf("seed %d, call %d: %+v is done to node %d; node %d had %s, has %s", seed, i, q, done, n, before[n], after)
				}
				if chain := s.Chain(n); !falls(chain) {
					t.Fatalf("seed %d, call %d: %+v: a chain rises: %v", seed, i, q, chain)
				}
			}
		}
	}
}

func falls(chain []int) bool {
	for i := 1; i < len(chain); i++ {
		if chain[i] >= chain[i-1] {
			return false
		}
	}
	return true
}

// only is the node that a call is done to: its own, or that whose chain alone has its version; 0, if there is none.
func only(p *plain, q request) int {
	switch q.name {
	case "Push", "Drop", "TakeLock":
		return max(q.a, 0)
	case "SetBegin", "SetEnd", "TakeEnd", "Cut":
		if at := holders(p, q.a); len(at) == 1 {
			return at[0]
		}
	}
	return 0
}

// holders are the nodes whose chains have a version.
func holders(p *plain, version int) []int {
	var at []int
	for n := 1; n <= p.made[0]; n++ {
		if slices.Contains(p.chain(n), version) {
			at = append(at, n)
		}
	}
	return at
}

// alone are the versions that are in a node's chain alone: what stands behind one that is in others', too, is in theirs as well.
func alone(p *plain, node int) []int {
	chain := p.chain(node)
	for i, v := range chain {
		if len(holders(p, v)) > 1 {
			return chain[:i]
		}
	}
	return chain
}

// facts are what the calls tell of a node, and of these versions, with which its chain begins.
func facts(s *store.Store, node int, versions []int) string {
	chain := s.Chain(node)
	text := fmt.Sprint(chain[:min(len(versions), len(chain))], ask(s, request{name: "Head", a: node}), ask(s, request{name: "Lock", a: node}))
	for _, v := range versions {
		for _, name := range []string{"Begin", "End", "Next", "Val"} {
			text += fmt.Sprint(" ", v, ask(s, request{name: name, a: v}))
		}
	}
	return text
}
