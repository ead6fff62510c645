package record_test

import (
	"encoding/binary"
	"math/rand"
	"sort"
	"testing"

	"varve/api"
)

// number is a number as bytes.
func number(n uint64) string { return string(binary.AppendUvarint(nil, n)) }

// plain reads bytes more plainly: a fault is a panic with its place.
type plain struct {
	b  string
	at int
}

type faultAt int

func (p *plain) number(most uint64) uint64 {
	n, size := binary.Uvarint([]byte(p.b[p.at:]))
	// What the number says is put again, for the library reads longer forms, too.
	if size <= 0 || len(number(n)) != size || n > most {
		panic(faultAt(p.at))
	}
	p.at += size
	return n
}

func (p *plain) text(most int) string {
	from := p.at
	n := int(p.number(uint64(most)))
	if n > len(p.b)-p.at {
		panic(faultAt(from))
	}
	p.at += n
	return p.b[p.at-n : p.at]
}

func (p *plain) one(of string) byte {
	for i := range of {
		if p.at < len(p.b) && p.b[p.at] == of[i] {
			p.at++
			return of[i]
		}
	}
	panic(faultAt(p.at))
}

func (p *plain) commit() any {
	p.one("C")
	c := api.Commit{Time: int64(p.number(lastTime))}
	for n := p.number(64); n > 0; n-- {
		if p.one("\x00\x01") == 1 {
			c.Writes = append(c.Writes, api.Write{Key: p.text(16), Gone: true})
			continue
		}
		key := p.text(16)
		c.Writes = append(c.Writes, api.Write{Key: key, Val: p.text(64)})
	}
	return c
}

func (p *plain) row() any {
	p.one("R")
	key := p.text(16)
	val := p.text(64)
	return api.Row{Key: key, Val: val, Time: int64(p.number(lastTime))}
}

func (p *plain) gone() any {
	p.one("G")
	key := p.text(16)
	return api.Gone{Key: key, Time: int64(p.number(lastTime))}
}

func (p *plain) manifest() any {
	p.one("M")
	m := api.Manifest{Time: int64(p.number(lastTime))}
	m.Log = int(p.number(lastNumber))
	for n := p.number(16); n > 0; n-- {
		pair := api.Pair{Number: int(p.number(lastNumber))}
		pair.From = int64(p.number(lastTime))
		pair.To = int64(p.number(lastTime))
		m.Pairs = append(m.Pairs, pair)
	}
	return m
}

func plainRead(kind byte, s string) (x any, at int, e api.Errno) {
	p := &plain{b: s}
	defer func() {
		if place, ok := recover().(faultAt); ok {
			x, at, e = zero(kind), int(place), api.ErrRecordByte
		}
	}()
	x = map[byte]func() any{'C': p.commit, 'R': p.row, 'G': p.gone, 'M': p.manifest}[kind]()
	if p.at != len(s) {
		panic(faultAt(p.at))
	}
	if !plainRight(x) {
		return zero(kind), 0, api.ErrRecordForm
	}
	return x, 0, api.OK
}

func plainRight(x any) bool {
	time := func(at int64) bool { return 0 <= at && at < 1<<40 }
	key := func(s string) bool { return s != "" && len(s) < 17 }
	val := func(s string) bool { return len(s) < 65 }
	switch v := x.(type) {
	case api.Row:
		return key(v.Key) && val(v.Val) && time(v.Time)
	case api.Gone:
		return key(v.Key) && time(v.Time)
	case api.Commit:
		right := time(v.Time) && len(v.Writes) < 65
		keys := map[string]bool{}
		for _, w := range v.Writes {
			right = right && key(w.Key) && val(w.Val) && !(w.Gone && w.Val != "")
			keys[w.Key] = true
		}
		rising := sort.SliceIsSorted(v.Writes, func(i, j int) bool { return v.Writes[i].Key < v.Writes[j].Key })
		return right && rising && len(keys) == len(v.Writes)
	case api.Manifest:
		right := time(v.Time) && v.Log > 0 && v.Log < 1<<31 && len(v.Pairs) < 17
		ends := []int64{0}
		numbers := map[int]bool{}
		for _, p := range v.Pairs {
			right = right && p.Number > 0 && p.Number < 1<<31 && p.From == ends[len(ends)-1] && p.From < p.To
			ends = append(ends, p.To)
			numbers[p.Number] = true
		}
		return right && ends[len(ends)-1] == v.Time && len(numbers) == len(v.Pairs)
	}
	panic("no record")
}

func plainBytes(x any) string {
	text := func(s string) string { return number(uint64(len(s))) + s }
	switch v := x.(type) {
	case api.Row:
		return "R" + text(v.Key) + text(v.Val) + number(uint64(v.Time))
	case api.Gone:
		return "G" + text(v.Key) + number(uint64(v.Time))
	case api.Commit:
		s := "C" + number(uint64(v.Time)) + number(uint64(len(v.Writes)))
		for _, w := range v.Writes {
			if w.Gone {
				s += "\x01" + text(w.Key)
			} else {
				s += "\x00" + text(w.Key) + text(w.Val)
			}
		}
		return s
	case api.Manifest:
		return manifestBytes(v)
	}
	panic("no record")
}

// checkPlain: bytes are read as the plain reader reads them, and what is read has these bytes and no others.
func checkPlain(t *testing.T, s string) (right bool) {
	t.Helper()
	as := 0
	for i := range kinds {
		x, at, e := readAs(kinds[i], []byte(s))
		wantX, wantAt, wantE := plainRead(kinds[i], s)
		if !same(x, wantX) || at != wantAt || e != wantE {
			t.Fatalf("read %.99x as %c: %s %d %v, not %s %d %v", s, kinds[i], told(x), at, e, told(wantX), wantAt, wantE)
		}
		if e != api.OK {
			continue
		}
		as++
		if b, e := put(x); string(b) != s || e != api.OK {
			t.Fatalf("read %.99x as %c: put again %.99x %v", s, kinds[i], b, e)
		}
	}
	if as > 1 {
		t.Fatalf("%.99x is read as %d kinds", s, as)
	}
	return as == 1
}

func TestAllShortBytes(t *testing.T) { // P6.2, What follows
	const letters = "\x00\x01\x02\x03\x11\x41\x80\xff"
	right := 0
	var grow func(s string, more int)
	grow = func(s string, more int) {
		if checkPlain(t, s) {
			right++
		}
		if more == 0 {
			return
		}
		for i := range letters {
			grow(s+letters[i:i+1], more-1)
		}
	}
	for i := range kinds {
		grow(kinds[i:i+1], 5)
	}
	if right < 100 {
		t.Errorf("%d of the bytes were right", right)
	}
}

func TestAllPairsOfBytes(t *testing.T) { // P6.2
	for x := range 256 {
		for y := range 256 {
			checkPlain(t, string([]byte{byte(x), byte(y)}))
			checkPlain(t, string([]byte{'C', byte(x), byte(y)}))
			checkPlain(t, string([]byte{'M', 0, byte(x), byte(y)}))
			checkPlain(t, string([]byte{'G', 1, byte(x), byte(y)}))
			checkPlain(t, string([]byte{'R', 1, 'k', byte(x), byte(y)}))
		}
	}
}

// A right record whose bytes are turned, cut, doubled or left out at random.
func TestSpoiledBytes(t *testing.T) { // P6.2, What follows
	dice := rand.New(rand.NewSource(6))
	right := 0
	for range 60000 {
		s := []byte(plainBytes(someRecord(dice, false)))
		for range dice.Intn(3) {
			s = spoil(dice, s)
		}
		if checkPlain(t, string(s)) {
			right++
		}
	}
	if right < 10000 || right > 50000 {
		t.Errorf("%d of the bytes were right", right)
	}
}

func spoil(dice *rand.Rand, s []byte) []byte {
	if len(s) == 0 {
		return []byte{kinds[dice.Intn(4)]}
	}
	at := dice.Intn(len(s))
	switch dice.Intn(6) {
	case 0:
		s[at] ^= 1 << dice.Intn(8)
	case 1:
		s[at] = byte(dice.Intn(256))
	case 2:
		s = s[:at]
	case 3:
		s = append(s, byte(dice.Intn(256)))
	case 4:
		s = append(s[:at:at], s[at+1:]...)
	case 5:
		s = append(s[:at:at], append([]byte{byte(dice.Intn(256))}, s[at:]...)...)
	}
	return s
}

func TestPutAtRandom(t *testing.T) { // P6.1
	dice := rand.New(rand.NewSource(66))
	right := 0
	for range 60000 {
		x := someRecord(dice, true)
		if !plainRight(x) {
			checkNotPut(t, x)
			continue
		}
		right++
		checkPut(t, x, plainBytes(x))
	}
	if right < 10000 || right > 50000 {
		t.Errorf("%d of the records were right", right)
	}
}

// someRecord is a record, right unless it may be wrong.
func someRecord(dice *rand.Rand, wrong bool) any {
	oneIn := func(n int) bool { return wrong && dice.Intn(n) == 0 }
	text := func(least, most int) string {
		n := least + dice.Intn(most-least+1)
		if oneIn(8) {
			n = []int{0, most, most + 1}[dice.Intn(3)]
		}
		b := make([]byte, n)
		for i := range b {
			b[i] = byte(dice.Intn(256))
		}
		return string(b)
	}
	time := func() int64 {
		if oneIn(8) {
			return []int64{-1, 0, lastTime, 1 << 40, dice.Int63() - dice.Int63()}[dice.Intn(5)]
		}
		return dice.Int63n(1 << (1 + dice.Intn(40)))
	}
	switch dice.Intn(4) {
	case 0:
		return api.Row{Key: text(1, 16), Val: text(0, 64), Time: time()}
	case 1:
		return api.Gone{Key: text(1, 16), Time: time()}
	case 2:
		c := api.Commit{Time: time()}
		for i := range dice.Intn(6) {
			w := api.Write{Key: string(rune('a'+i)) + text(0, 15), Val: text(0, 64)}
			if dice.Intn(2) == 0 {
				w.Gone = true
				if !oneIn(8) {
					w.Val = ""
				}
			}
			if oneIn(12) {
				w.Key = text(1, 16)
			}
			c.Writes = append(c.Writes, w)
		}
		return c
	}
	return someManifest(dice, oneIn)
}

func someManifest(dice *rand.Rand, oneIn func(int) bool) api.Manifest {
	number := func(n int) int {
		if oneIn(12) {
			return []int{-1, 0, 1, 2, 3, lastNumber, 1 << 31, int(dice.Uint64())}[dice.Intn(8)]
		}
		return n
	}
	m := api.Manifest{Log: number(1 + dice.Intn(lastNumber))}
	for _, n := range dice.Perm(16)[:dice.Intn(6)] {
		p := api.Pair{Number: number(n + 1), From: m.Time, To: m.Time + 1 + dice.Int63n(1<<(1+dice.Intn(36)))}
		if oneIn(15) {
			p.From += int64(dice.Intn(3) - 1)
		}
		if oneIn(15) {
			p.To = p.From + int64(dice.Intn(3)-1)
		}
		m.Pairs = append(m.Pairs, p)
		m.Time = p.To
	}
	if oneIn(8) {
		m.Time += int64(dice.Intn(3) - 1)
	}
	return m
}
