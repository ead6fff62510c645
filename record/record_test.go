package record_test

import (
	"bytes"
	"fmt"
	"math"
	"reflect"
	"strings"
	"testing"

	"varve/api"
	"varve/record"
)

const (
	lastTime   = 1<<40 - 1
	lastNumber = 1<<31 - 1
)

// The numbers that stand at limits, as bytes.
const (
	lastTimeBytes   = "\xff\xff\xff\xff\xff\x1f"
	overTimeBytes   = "\x80\x80\x80\x80\x80\x20"
	lastNumberBytes = "\xff\xff\xff\xff\x07"
	overNumberBytes = "\x80\x80\x80\x80\x08"
	mostBytes       = "\xff\xff\xff\xff\xff\xff\xff\xff\xff\x01" // 2^64 - 1
)

var (
	key16 = strings.Repeat("k", 16)
	key17 = strings.Repeat("k", 17)
	val64 = strings.Repeat("v", 64)
	val65 = strings.Repeat("v", 65)
)

// told is not all of a long record.
func told(x any) string {
	s := fmt.Sprintf("%#v", x)
	return s[:min(len(s), 300)]
}

// same: nil and empty lists are one.
func same(x, y any) bool {
	return reflect.DeepEqual(plainer(x), plainer(y))
}

func plainer(x any) any {
	switch v := x.(type) {
	case api.Commit:
		if len(v.Writes) == 0 {
			v.Writes = nil
		}
		return v
	case api.Manifest:
		if len(v.Pairs) == 0 {
			v.Pairs = nil
		}
		return v
	}
	return x
}

// put puts a record of any kind.
func put(x any) ([]byte, api.Errno) {
	switch v := x.(type) {
	case api.Commit:
		return record.PutCommit(v)
	case api.Row:
		return record.PutRow(v)
	case api.Gone:
		return record.PutGone(v)
	case api.Manifest:
		return record.PutManifest(v)
	}
	panic("no record")
}

const kinds = "CRGM"

// readAs reads bytes as those of a kind.
func readAs(kind byte, b []byte) (any, int, api.Errno) {
	switch kind {
	case 'C':
		return any3(record.Commit(b))
	case 'R':
		return any3(record.Row(b))
	case 'G':
		return any3(record.Gone(b))
	case 'M':
		return any3(record.Manifest(b))
	}
	panic("no kind")
}

func any3[T any](x T, at int, e api.Errno) (any, int, api.Errno) { return x, at, e }

func zero(kind byte) any {
	switch kind {
	case 'C':
		return api.Commit{}
	case 'R':
		return api.Row{}
	case 'G':
		return api.Gone{}
	}
	return api.Manifest{}
}

func checkPut(t *testing.T, x any, want string) {
	t.Helper()
	if b, e := put(x); string(b) != want || e != api.OK {
		t.Errorf("put %s: %.99x %v, not %.99x", told(x), b, e, want)
	}
	if got, at, e := readAs(want[0], []byte(want)); !same(got, x) || at != 0 || e != api.OK {
		t.Errorf("read %.99x: %s %d %v, not %s", want, told(got), at, e, told(x))
	}
}

func checkNotPut(t *testing.T, x any) {
	t.Helper()
	if b, e := put(x); len(b) != 0 || e != api.ErrRecordForm {
		t.Errorf("put %s: %.99x %v, not ErrRecordForm", told(x), b, e)
	}
}

func checkFault(t *testing.T, kind byte, s string, place int) {
	t.Helper()
	if got, at, e := readAs(kind, []byte(s)); !same(got, zero(kind)) || at != place || e != api.ErrRecordByte {
		t.Errorf("read %.99x as %c: %s %d %v, not ErrRecordByte at %d", s, kind, told(got), at, e, place)
	}
}

func checkNotRight(t *testing.T, s string) {
	t.Helper()
	if got, at, e := readAs(s[0], []byte(s)); !same(got, zero(s[0])) || at != 0 || e != api.ErrRecordForm {
		t.Errorf("read %.99x: %s %d %v, not ErrRecordForm", s, told(got), at, e)
	}
}

func TestExamples(t *testing.T) { // P6.1, P6.2: the chapter's table
	checkPut(t, api.Commit{Time: 300, Writes: []api.Write{{Key: "a", Val: "x"}, {Key: "b", Gone: true}}}, "\x43\xac\x02\x02\x00\x01\x61\x01\x78\x01\x01\x62")
	checkPut(t, api.Row{Key: "k", Time: 1}, "\x52\x01\x6b\x00\x01")
	checkPut(t, api.Gone{Key: "k", Time: 1}, "\x47\x01\x6b\x01")
	checkPut(t, api.Manifest{Time: 5, Log: 2, Pairs: []api.Pair{{Number: 1, From: 0, To: 5}}}, "\x4d\x05\x02\x01\x01\x00\x05")
	checkNotPut(t, api.Commit{Time: 1, Writes: []api.Write{{Key: "b"}, {Key: "a"}}})
	checkNotPut(t, api.Commit{Time: 1, Writes: []api.Write{{Key: "a"}, {Key: "a"}}})
	checkNotPut(t, api.Row{})
	checkNotPut(t, api.Manifest{Time: 5, Log: 1})
	checkFault(t, 'C', "\x43\x80", 1)
	checkFault(t, 'C', "\x43\x00\x01\x02\x01\x61", 3)
	checkFault(t, 'C', "\x43\x00\x00\x00", 3)
	checkFault(t, 'C', "\x52", 0)
	checkFault(t, 'C', "", 0)
	checkNotRight(t, "\x52\x00\x00\x00")
	checkNotRight(t, "\x4d\x05\x02\x00")
}

func TestIsKeyIsVal(t *testing.T) { // P6.1
	for n := range 200 {
		for _, of := range []string{"a", "\x00", "\xff", "é"[:1]} {
			s := strings.Repeat(of, n)
			if got, want := record.IsKey(s), n >= 1 && n <= 16; got != want {
				t.Errorf("IsKey(%d times %q): %v", n, of, got)
			}
			if got, want := record.IsVal(s), n <= 64; got != want {
				t.Errorf("IsVal(%d times %q): %v", n, of, got)
			}
		}
	}
	// Bytes count, not letters.
	if record.IsKey(strings.Repeat("é", 9)) || !record.IsKey(strings.Repeat("é", 8)) {
		t.Error("IsKey counts letters")
	}
	if record.IsVal(strings.Repeat("é", 33)) || !record.IsVal(strings.Repeat("é", 32)) {
		t.Error("IsVal counts letters")
	}
}

func TestPutKeyOfEachLength(t *testing.T) { // P6.1
	for n := range 70 {
		key := strings.Repeat("k", n)
		row := api.Row{Key: key, Val: "v", Time: 7}
		gone := api.Gone{Key: key, Time: 7}
		commit := api.Commit{Time: 7, Writes: []api.Write{{Key: key, Val: "v"}}}
		away := api.Commit{Time: 7, Writes: []api.Write{{Key: key, Gone: true}}}
		if n < 1 || n > 16 {
			for _, x := range []any{row, gone, commit, away} {
				checkNotPut(t, x)
			}
			continue
		}
		text := string(rune(n)) + key
		checkPut(t, row, "R"+text+"\x01v\x07")
		checkPut(t, gone, "G"+text+"\x07")
		checkPut(t, commit, "C\x07\x01\x00"+text+"\x01v")
		checkPut(t, away, "C\x07\x01\x01"+text)
	}
}

func TestPutValueOfEachLength(t *testing.T) { // P6.1
	for n := range 70 {
		val := strings.Repeat("v", n)
		row := api.Row{Key: "k", Val: val, Time: 7}
		commit := api.Commit{Time: 7, Writes: []api.Write{{Key: "k", Val: val}}}
		if n > 64 {
			checkNotPut(t, row)
			checkNotPut(t, commit)
			continue
		}
		text := string(rune(n)) + val
		checkPut(t, row, "R\x01k"+text+"\x07")
		checkPut(t, commit, "C\x07\x01\x00\x01k"+text)
		away := api.Commit{Time: 7, Writes: []api.Write{{Key: "k", Val: val, Gone: true}}}
		if n > 0 {
			checkNotPut(t, away)
		}
	}
}

func TestPutAnyBytes(t *testing.T) { // P6.1: keys and values are any bytes
	for x := range 256 {
		s := string([]byte{byte(x)})
		checkPut(t, api.Row{Key: s, Val: s + s, Time: 0}, "R\x01"+s+"\x02"+s+s+"\x00")
		checkPut(t, api.Gone{Key: s, Time: 0}, "G\x01"+s+"\x00")
		checkPut(t, api.Commit{Writes: []api.Write{{Key: s, Val: s}}}, "C\x00\x01\x00\x01"+s+"\x01"+s)
	}
}

func TestPutTime(t *testing.T) { // P6.1
	right := map[int64]string{0: "\x00", 1: "\x01", 127: "\x7f", 128: "\x80\x01", 300: "\xac\x02", lastTime - 1: "\xfe\xff\xff\xff\xff\x1f", lastTime: lastTimeBytes}
	for at, s := range right {
		checkPut(t, api.Commit{Time: at}, "C"+s+"\x00")
		checkPut(t, api.Row{Key: "k", Time: at}, "R\x01k\x00"+s)
		checkPut(t, api.Gone{Key: "k", Time: at}, "G\x01k"+s)
		if at > 0 {
			checkPut(t, api.Manifest{Time: at, Log: 1, Pairs: []api.Pair{{Number: 3, To: at}}}, "M"+s+"\x01\x01\x03\x00"+s)
		}
	}
	for _, at := range []int64{-1, -2, -lastTime, math.MinInt64, 1 << 40, 1<<40 + 1, 1 << 62, math.MaxInt64} {
		checkNotPut(t, api.Commit{Time: at})
		checkNotPut(t, api.Commit{Time: at, Writes: []api.Write{{Key: "k"}}})
		checkNotPut(t, api.Row{Key: "k", Time: at})
		checkNotPut(t, api.Gone{Key: "k", Time: at})
		checkNotPut(t, api.Manifest{Time: at, Log: 1})
		checkNotPut(t, api.Manifest{Time: at, Log: 1, Pairs: []api.Pair{{Number: 3, To: at}}})
	}
}

// writes are so many, by rising keys; every third one is gone.
func writes(n int) []api.Write {
	var list []api.Write
	for i := range n {
		w := api.Write{Key: "key" + string(rune('0'+i/10)) + string(rune('0'+i%10))}
		if i%3 == 2 {
			w.Gone = true
		} else {
			w.Val = strings.Repeat("v", i)
		}
		list = append(list, w)
	}
	return list
}

func writesBytes(list []api.Write) string {
	var s strings.Builder
	for _, w := range list {
		if w.Gone {
			s.WriteString("\x01" + string(rune(len(w.Key))) + w.Key)
		} else {
			s.WriteString("\x00" + string(rune(len(w.Key))) + w.Key + string(rune(len(w.Val))) + w.Val)
		}
	}
	return s.String()
}

func TestPutWrites(t *testing.T) { // P6.1
	for n := range 65 {
		list := writes(n)
		checkPut(t, api.Commit{Time: 9, Writes: list}, "C\x09"+string(rune(n))+writesBytes(list))
	}
	for _, n := range []int{65, 66, 80, 99} {
		checkNotPut(t, api.Commit{Time: 9, Writes: writes(n)})
	}
	checkNotPut(t, api.Commit{Time: 9, Writes: make([]api.Write, 1<<20)})
	most := make([]api.Write, 64) // the greatest commit
	for i := range most {
		most[i] = api.Write{Key: key16[1:] + string(rune(i)), Val: val64}
	}
	checkPut(t, api.Commit{Time: lastTime, Writes: most}, "C"+lastTimeBytes+"\x40"+writesBytes(most))
}

func TestWritesRise(t *testing.T) { // P6.1: keys rise bytewise, none twice
	for _, keys := range []string{"a b", "a aa", "B a", "Z a", "\x00 \x00\x00", "a \xff", "\x7f \x80", "a\xff b", "a ab b", "1 10 2", "é \xff"} {
		var list []api.Write
		for _, k := range strings.Split(keys, " ") {
			list = append(list, api.Write{Key: k, Val: "v"})
		}
		checkPut(t, api.Commit{Writes: list}, "C\x00"+string(rune(len(list)))+writesBytes(list))
		turned := []api.Write{list[1], list[0]}
		checkNotPut(t, api.Commit{Writes: turned})
		checkNotRight(t, "C\x00\x02"+writesBytes(turned))
	}
	// One fault anywhere, of any kind.
	faults := map[string]func(list []api.Write, i int){
		"the key ahead once more": func(list []api.Write, i int) { list[i].Key = list[max(i-1, 0)].Key },
		"no key":                  func(list []api.Write, i int) { list[i].Key = "" },
		"a long key":              func(list []api.Write, i int) { list[i].Key += key17 },
		"a long value":            func(list []api.Write, i int) { list[i].Val, list[i].Gone = val65, false },
		"a value where it is gone": func(list []api.Write, i int) {
			list[i].Val, list[i].Gone = "v", true
		},
		"a low key": func(list []api.Write, i int) { list[i].Key = "A" },
		"a high key": func(list []api.Write, i int) {
			if i < len(list)-1 {
				list[i].Key = "z"
			}
		},
	}
	right := map[string]bool{"the key ahead once more 0": true, "a low key 0": true, "a high key 63": true}
	for name, fault := range faults {
		for i := range 64 {
			list := writes(64)
			fault(list, i)
			b, e := record.PutCommit(api.Commit{Time: 1, Writes: list})
			if wanted := right[name+" "+itoa(i)]; wanted != (e == api.OK) || !wanted && (len(b) != 0 || e != api.ErrRecordForm) {
				t.Errorf("%s at %d: %.99x %v", name, i, b, e)
			}
		}
	}
}

func itoa(i int) string {
	if i < 10 {
		return string(rune('0' + i))
	}
	return itoa(i/10) + itoa(i%10)
}

func pair(number int, from, to int64) api.Pair {
	return api.Pair{Number: number, From: from, To: to}
}

// manifest is one of so many pairs.
func manifest(n int) api.Manifest {
	m := api.Manifest{Log: 4}
	for i := range n {
		m.Pairs = append(m.Pairs, api.Pair{Number: 100 - i, From: m.Time, To: m.Time + int64(i) + 1})
		m.Time += int64(i) + 1
	}
	return m
}

func manifestBytes(m api.Manifest) string {
	s := "M" + number(uint64(m.Time)) + number(uint64(m.Log)) + number(uint64(len(m.Pairs)))
	for _, p := range m.Pairs {
		s += number(uint64(p.Number)) + number(uint64(p.From)) + number(uint64(p.To))
	}
	return s
}

func TestPutPairs(t *testing.T) { // P6.1
	for n := range 17 {
		m := manifest(n)
		checkPut(t, m, manifestBytes(m))
	}
	for _, n := range []int{17, 18, 33} {
		checkNotPut(t, manifest(n))
	}
	checkNotPut(t, api.Manifest{Log: 1, Pairs: make([]api.Pair, 1<<20)})
	checkPut(t, api.Manifest{Time: 7, Log: 3, Pairs: []api.Pair{pair(9, 0, 2), pair(1, 2, 6), pair(5, 6, 7)}}, "M\x07\x03\x03\x09\x00\x02\x01\x02\x06\x05\x06\x07")
	checkPut(t, api.Manifest{Time: 0, Log: 1}, "M\x00\x01\x00")
	greatest := api.Manifest{Time: lastTime, Log: lastNumber}
	for i := range 16 {
		greatest.Pairs = append(greatest.Pairs, api.Pair{Number: lastNumber - i, From: lastTime - 15 + int64(i) - 1, To: lastTime - 15 + int64(i)})
	}
	greatest.Pairs[0].From = 0
	checkPut(t, greatest, manifestBytes(greatest))
}

func TestPutNumber(t *testing.T) { // P6.1
	right := map[int]string{1: "\x01", 2: "\x02", 128: "\x80\x01", lastNumber - 1: "\xfe\xff\xff\xff\x07", lastNumber: lastNumberBytes}
	for n, s := range right {
		checkPut(t, api.Manifest{Log: n}, "M\x00"+s+"\x00")
		checkPut(t, api.Manifest{Time: 5, Log: n, Pairs: []api.Pair{pair(n, 0, 5)}}, "M\x05"+s+"\x01"+s+"\x00\x05")
	}
	for _, n := range []int{0, -1, -2, math.MinInt, math.MinInt + 1, 1 << 31, 1<<31 + 1, 1 << 32, 1<<32 + 1, math.MaxInt} {
		checkNotPut(t, api.Manifest{Log: n})
		checkNotPut(t, api.Manifest{Time: 5, Log: n, Pairs: []api.Pair{pair(1, 0, 5)}})
		checkNotPut(t, api.Manifest{Time: 5, Log: 1, Pairs: []api.Pair{pair(n, 0, 5)}})
		checkNotPut(t, api.Manifest{Time: 5, Log: 1, Pairs: []api.Pair{pair(1, 0, 3), pair(n, 3, 5)}})
	}
}

func TestPutWrongPairs(t *testing.T) { // P6.1
	for _, m := range []api.Manifest{
		// None, and a Time above 0.
		{Time: 1, Log: 1},
		{Time: lastTime, Log: 1},
		// Does not begin at 0.
		{Time: 5, Log: 1, Pairs: []api.Pair{pair(1, 1, 5)}},
		{Time: 5, Log: 1, Pairs: []api.Pair{pair(1, -1, 5)}},
		{Time: 5, Log: 1, Pairs: []api.Pair{pair(1, 4, 5)}},
		// From not below To.
		{Time: 0, Log: 1, Pairs: []api.Pair{pair(1, 0, 0)}},
		{Time: 0, Log: 1, Pairs: []api.Pair{pair(1, 0, -1)}},
		{Time: 5, Log: 1, Pairs: []api.Pair{pair(1, 0, 5), pair(2, 5, 5)}},
		{Time: 5, Log: 1, Pairs: []api.Pair{pair(2, 0, 0), pair(1, 0, 5)}},
		{Time: 4, Log: 1, Pairs: []api.Pair{pair(1, 0, 5), pair(2, 5, 4)}},
		{Time: 5, Log: 1, Pairs: []api.Pair{pair(1, 0, 6), pair(2, 6, 5)}},
		{Time: 5, Log: 1, Pairs: []api.Pair{pair(1, 0, -2), pair(2, -2, 5)}},
		// Does not end at Time.
		{Time: 5, Log: 1, Pairs: []api.Pair{pair(1, 0, 4)}},
		{Time: 5, Log: 1, Pairs: []api.Pair{pair(1, 0, 6)}},
		{Time: 5, Log: 1, Pairs: []api.Pair{pair(1, 0, lastTime)}},
		{Time: 5, Log: 1, Pairs: []api.Pair{pair(1, 0, 1<<40)}},
		{Time: 0, Log: 1, Pairs: []api.Pair{pair(1, 0, 5)}},
		{Time: 5, Log: 1, Pairs: []api.Pair{pair(1, 0, 3), pair(2, 3, 6)}},
		{Time: 3, Log: 1, Pairs: []api.Pair{pair(1, 0, 3), pair(2, 3, 6)}},
		// A gap.
		{Time: 6, Log: 1, Pairs: []api.Pair{pair(1, 0, 3), pair(2, 4, 6)}},
		// One over the other.
		{Time: 6, Log: 1, Pairs: []api.Pair{pair(1, 0, 3), pair(2, 2, 6)}},
		{Time: 6, Log: 1, Pairs: []api.Pair{pair(1, 0, 3), pair(2, 0, 6)}},
		// Turned.
		{Time: 6, Log: 1, Pairs: []api.Pair{pair(1, 3, 6), pair(2, 0, 3)}},
		// Two Numbers the same.
		{Time: 6, Log: 1, Pairs: []api.Pair{pair(1, 0, 3), pair(1, 3, 6)}},
		{Time: 6, Log: 1, Pairs: []api.Pair{pair(1, 0, 3), pair(2, 3, 4), pair(1, 4, 6)}},
		{Time: 6, Log: 1, Pairs: []api.Pair{pair(7, 0, 3), pair(2, 3, 4), pair(2, 4, 6)}},
		{Time: 6, Log: 1, Pairs: []api.Pair{pair(0, 0, 3), pair(2, 3, 6)}},
	} {
		checkNotPut(t, m)
	}
	for i := range 16 { // any two
		for j := range i {
			m := manifest(16)
			m.Pairs[i].Number = m.Pairs[j].Number
			checkNotPut(t, m)
			checkNotRight(t, manifestBytes(m))
		}
	}
}

func TestFirstByte(t *testing.T) { // P6.2
	rest := map[byte]string{'C': "\x00\x00", 'R': "\x01k\x00\x00", 'G': "\x01k\x00", 'M': "\x00\x01\x00"}
	for i := range kinds {
		kind := kinds[i]
		checkFault(t, kind, "", 0)
		if _, at, e := readAs(kind, nil); at != 0 || e != api.ErrRecordByte {
			t.Errorf("read nothing as %c: %d %v", kind, at, e)
		}
		for x := range 256 {
			s := string([]byte{byte(x)}) + rest[kind]
			if byte(x) != kind {
				checkFault(t, kind, s, 0)
				checkFault(t, kind, s+"more", 0)
				checkFault(t, kind, s[:1], 0)
			} else if _, at, e := readAs(kind, []byte(s)); at != 0 || e != api.OK {
				t.Errorf("read %x as %c: %d %v", s, kind, at, e)
			}
		}
	}
}

// field is a number, a text or a byte that stands in a record: what stands ahead of it, what may stand behind it.
type field struct {
	ahead, behind string
}

var timeFields = []field{
	{"C", "\x00"},
	{"C", "\x01\x00\x01k\x00"},
	{"R\x01k\x00", ""},
	{"R\x10" + "kkkkkkkkkkkkkkkk" + "\x00", ""},
	{"G\x01k", ""},
	{"M", "\x01\x00"},
	{"M", "\x01\x01\x01\x00\x05"},
	{"M\x05\x01\x01\x01", "\x05"},
	{"M\x05\x01\x01\x01\x00", ""},
	{"M\x05\x01\x02\x01\x00\x03\x02", "\x05"},
	{"M\x05\x01\x02\x01\x00\x03\x02\x03", ""},
}

var fileNumberFields = []field{
	{"M\x00", "\x00"},
	{"M\xac\x02", "\x00"},
	{"M\x05\x01\x01", "\x00\x05"},
	{"M\x05\x01\x02\x01\x00\x03", "\x03\x05"},
}

var keyFields = []field{
	{"R", "\x00\x00"},
	{"G", "\x00"},
	{"C\x00\x01\x00", "\x00"},
	{"C\xac\x02\x01\x01", ""},
	{"C\x00\x02\x01\x01a\x00", "\x00"},
	{"C\x00\x02\x00\x01a\x01v\x01", ""},
}

var valueFields = []field{
	{"R\x01k", "\x00"},
	{"R\x02kk", "\x00"},
	{"C\x00\x01\x00\x01k", ""},
	{"C\x00\x02\x01\x01a\x00\x01k", ""},
	{"C\x00\x02\x00\x01a", "\x01\x01k"},
}

// checkNumberField: numbers in a longer form, cut short, or above the greatest are told where they stand.
func checkNumberField(t *testing.T, f field, most uint64) {
	t.Helper()
	place := len(f.ahead)
	checkFault(t, f.ahead[0], f.ahead, place)
	for _, n := range []uint64{most + 1, most + 2, 2*most + 2, 1 << 32, 1<<32 + 1, 1 << 40, 1<<40 + 1, 1 << 63, 1<<63 + 1, math.MaxUint64} {
		if n > most {
			checkFault(t, f.ahead[0], f.ahead+number(n)+f.behind, place)
			checkFault(t, f.ahead[0], f.ahead+number(n), place)
		}
	}
	for _, n := range []string{"\x80\x00", "\x81\x00", "\x80\x80\x00", "\xff\xff\xff\x00", "\x80\x80\x80\x80\x80\x80\x80\x80\x80\x00", "\x80\x80\x80\x80\x80\x80\x80\x80\x80\x02", "\x80\x80\x80\x80\x80\x80\x80\x80\x80\x80\x01", "\x81\x80\x80\x80\x80\x80\x80\x80\x80\x80\x00"} {
		checkFault(t, f.ahead[0], f.ahead+n+f.behind, place)
	}
	for _, n := range []string{"\x80", "\xff", "\x80\x80", "\xff\xff\xff\xff", "\xff\xff\xff\xff\xff\xff\xff\xff\xff"} {
		checkFault(t, f.ahead[0], f.ahead+n, place)
	}
}

// checkWithin: of numbers up to the greatest another place is told, or none.
func checkWithin(t *testing.T, f field, most uint64) {
	t.Helper()
	for _, n := range []uint64{0, 1, 5, most - 1, most} {
		if _, at, e := readAs(f.ahead[0], []byte(f.ahead+number(n)+f.behind)); e == api.ErrRecordByte && at <= len(f.ahead) {
			t.Errorf("read %.99x, %d, %.99x: a fault at %d", f.ahead, n, f.behind, at)
		}
	}
}

func TestNumbersAsBytes(t *testing.T) { // P6.2
	for _, f := range timeFields {
		checkNumberField(t, f, lastTime)
		checkWithin(t, f, lastTime)
	}
	for _, f := range fileNumberFields {
		checkNumberField(t, f, lastNumber)
		checkWithin(t, f, lastNumber)
	}
	for _, f := range []field{{"C\x00", ""}, {"C\xac\x02", ""}, {"C\x00", "\x00\x01k\x00"}} {
		checkNumberField(t, f, 64)
		checkWithin(t, f, 64)
	}
	for _, f := range []field{{"M\x00\x01", ""}, {"M\x05\x01", "\x01\x00\x05"}} {
		checkNumberField(t, f, 16)
		checkWithin(t, f, 16)
	}
	checkFault(t, 'C', "C"+overTimeBytes+"\x00", 1)
	checkFault(t, 'C', "C"+mostBytes+"\x00", 1)
	checkFault(t, 'M', "M\x00"+overNumberBytes+"\x00", 2)
	checkFault(t, 'C', "C\x00\x41", 2)
	checkFault(t, 'C', "C\x00\x40", 3) // 64 Writes, of which none is there
	checkFault(t, 'M', "M\x00\x01\x11", 3)
	checkFault(t, 'M', "M\x00\x01\x10", 4)
}

// checkTextField: texts that are too long or cut short are told where they stand.
func checkTextField(t *testing.T, f field, most int) {
	t.Helper()
	kind, place := f.ahead[0], len(f.ahead)
	checkNumberField(t, f, uint64(most))
	for n := range 200 {
		whole := number(uint64(n)) + strings.Repeat("k", n)
		s := f.ahead + whole + f.behind
		if n > most {
			checkFault(t, kind, s, place)
			checkFault(t, kind, f.ahead+whole, place)
			continue
		}
		if _, at, e := readAs(kind, []byte(s)); at != 0 || e == api.ErrRecordByte {
			t.Errorf("read %.99x: %d %v", s, at, e)
		}
		for cut := range whole {
			checkFault(t, kind, f.ahead+whole[:cut], place)
		}
	}
}

func TestTextsAsBytes(t *testing.T) { // P6.2
	for _, f := range keyFields {
		checkTextField(t, f, 16)
	}
	for _, f := range valueFields {
		checkTextField(t, f, 64)
	}
}

func TestWritesByte(t *testing.T) { // P6.2
	for _, ahead := range []string{"C\x00\x01", "C\xac\x02\x01", "C\x00\x02\x00\x01a\x01v", "C\x00\x02\x01\x01a"} {
		checkFault(t, 'C', ahead, len(ahead))
		for x := 2; x < 256; x++ {
			mark := string([]byte{byte(x)})
			checkFault(t, 'C', ahead+mark, len(ahead))
			checkFault(t, 'C', ahead+mark+"\x01k\x01v", len(ahead))
			checkFault(t, 'C', ahead+mark+"\x00", len(ahead))
		}
		for _, rest := range []string{"\x00\x01k\x01v", "\x01\x01k"} {
			if _, at, e := record.Commit([]byte(ahead + rest)); at != 0 || e != api.OK {
				t.Errorf("read %x: %d %v", ahead+rest, at, e)
			}
		}
	}
	checkFault(t, 'C', "C\x00\x01\x01\x01k\x00", 6) // what is gone has no value
	checkFault(t, 'C', "C\x00\x01\x00\x01k", 6)     // what is not has one
}

// somes are right records of each kind.
func somes() []any {
	return []any{
		api.Commit{}, api.Commit{Time: lastTime}, api.Commit{Time: 300, Writes: writes(1)}, api.Commit{Time: 300, Writes: writes(3)}, api.Commit{Time: lastTime, Writes: writes(64)},
		api.Row{Key: "k"}, api.Row{Key: "k", Val: "v", Time: 300}, api.Row{Key: key16, Val: val64, Time: lastTime},
		api.Row{Key: "R", Val: "\x00", Time: 1}, api.Row{Key: "\x00", Val: "R\x01k\x00\x01", Time: 1},
		api.Gone{Key: "k"}, api.Gone{Key: "G", Time: 300}, api.Gone{Key: key16, Time: lastTime},
		manifest(0), manifest(1), manifest(3), manifest(16),
		api.Manifest{Time: lastTime, Log: lastNumber, Pairs: []api.Pair{pair(lastNumber, 0, lastTime)}},
	}
}

func TestReadAsItIs(t *testing.T) { // What follows
	for _, x := range somes() {
		b, e := put(x)
		if e != api.OK {
			t.Fatalf("put %s: %v", told(x), e)
		}
		if got, at, e := readAs(b[0], b); !same(got, x) || at != 0 || e != api.OK {
			t.Errorf("read %.99x: %s %d %v, not %s", b, told(got), at, e, told(x))
		}
	}
}

func TestNoBeginningNothingBehind(t *testing.T) { // What follows, and P6.2: bytes behind the end
	for _, x := range somes() {
		b, _ := put(x)
		for n := range b {
			got, at, e := readAs(b[0], b[:n])
			if !same(got, zero(b[0])) || at > n || e != api.ErrRecordByte {
				t.Errorf("read %d bytes of %.99x: %s %d %v", n, b, told(got), at, e)
			}
		}
		for _, more := range []string{"\x00", "\x01", "\x80", "\xff", "C", "R\x01k\x00\x00", string(b), strings.Repeat("\x00", 1000)} {
			checkFault(t, b[0], string(b)+more, len(b))
		}
	}
}

func TestNoTwoKinds(t *testing.T) { // What follows
	for _, x := range somes() {
		b, _ := put(x)
		for i := range kinds {
			if kinds[i] != b[0] {
				checkFault(t, kinds[i], string(b), 0)
			}
		}
	}
}

func TestReadButNotRight(t *testing.T) { // P6.2
	for _, s := range []string{
		"R\x00\x00\x00", "R\x00\x01v\x05", "G\x00\x00", "G\x00\x05", // no key
		"C\x00\x01\x00\x00\x00", "C\x00\x01\x01\x00", "C\x00\x02\x00\x00\x00\x00\x01a\x00", "C\x00\x02\x01\x01a\x01\x00",
		"C\x00\x02\x00\x01b\x00\x00\x01a\x00", "C\x00\x02\x00\x01a\x00\x00\x01a\x00", // keys that do not rise
		"C\x00\x02\x01\x01a\x00\x01a\x00", "C\x00\x03\x01\x01a\x01\x01c\x01\x01b",
		// Log 0.
		"M\x00\x00\x00",
		"M\x05\x00\x01\x01\x00\x05",
		// Number 0.
		"M\x05\x01\x01\x00\x00\x05",
		// None, and a Time above 0.
		"M\x05\x01\x00",
		"M" + lastTimeBytes + "\x01\x00",
		// Does not begin at 0.
		"M\x05\x01\x01\x01\x01\x05",
		// From not below To.
		"M\x00\x01\x01\x01\x00\x00",
		"M\x05\x01\x01\x01\x05\x00",
		// Does not end at Time.
		"M\x05\x01\x01\x01\x00\x04",
		"M\x05\x01\x01\x01\x00\x06",
		"M\x05\x01\x01\x01\x00" + lastTimeBytes,
		// A gap.
		"M\x06\x01\x02\x01\x00\x03\x02\x04\x06",
		// One over the other.
		"M\x06\x01\x02\x01\x00\x03\x02\x02\x06",
		// Two Numbers the same.
		"M\x06\x01\x02\x01\x00\x03\x01\x03\x06",
		"M\x05\x01\x02\x01\x00\x06\x02\x06\x05",
	} {
		checkNotRight(t, s)
	}
}

func TestFirstOfSeveralFaults(t *testing.T) { // P6.2
	checkFault(t, 'C', "R\x80", 0)
	checkFault(t, 'C', "C\x80\x00\x41\x02", 1) // a time ahead of how many
	checkFault(t, 'C', "C"+overTimeBytes+"\x41", 1)
	checkFault(t, 'C', "C\x00\x41\x02\x02", 2)                     // how many ahead of a Write
	checkFault(t, 'C', "C\x00\x02\x02\x01a\x01\x11", 3)            // the first Write ahead of the second
	checkFault(t, 'C', "C\x00\x01\x00\x11"+key17+"\x41"+val65, 4)  // a key ahead of its value
	checkFault(t, 'C', "C\x00\x02\x01\x01b\x00\x01a\x41"+val65, 9) // a byte ahead of what is not right
	checkFault(t, 'C', "C\x00\x02\x01\x00\x01\x00\x00", 7)
	checkFault(t, 'C', "C\x00\x01\x01\x00\x00\x80", 5) // the first of what is left
	checkFault(t, 'R', "R\x11"+key17+"\x41"+val65+"\x80", 1)
	checkFault(t, 'R', "R\x10"+key16+"\x41"+val65+"\x80", 18)
	checkFault(t, 'R', "R\x10"+key16+"\x40"+val64+"\x80", 83)
	checkFault(t, 'R', "R\x10"+key16+"\x40"+val64+"\x00\x80", 84)
	checkFault(t, 'R', "R\x00\x41"+val65+"\x80", 2)
	checkFault(t, 'R', "R\x00\x00\x00\x00", 4)
	checkFault(t, 'G', "G\x11"+key17+"\x80", 1)
	checkFault(t, 'G', "G\x00\x80", 2)
	checkFault(t, 'G', "G\x00\x00\x80", 3)
	checkFault(t, 'M', "M"+overTimeBytes+overNumberBytes+"\x11", 1)
	checkFault(t, 'M', "M\x00"+overNumberBytes+"\x11", 2)
	checkFault(t, 'M', "M\x00\x00\x11", 3)
	checkFault(t, 'M', "M\x00\x00\x01"+overNumberBytes+overTimeBytes+overTimeBytes, 4)
	checkFault(t, 'M', "M\x00\x00\x01\x00"+overTimeBytes+overTimeBytes, 5)
	checkFault(t, 'M', "M\x00\x00\x01\x00\x05"+overTimeBytes, 6)
	checkFault(t, 'M', "M\x00\x00\x01\x00\x05\x05\x05", 7)
	checkFault(t, 'M', "M\x00\x00\x02\x00\x05\x05\x80", 7)
}

func TestMemory(t *testing.T) { // P6.3
	for _, x := range somes() {
		b, _ := put(x)
		want := string(b)
		again, _ := put(x)
		for _, bytes := range [][]byte{b, b[len(b):cap(b)]} { // what is answered, and its spare room, is nobody else's
			for i := range bytes {
				bytes[i] = 0xee
			}
		}
		if string(again) != want {
			t.Errorf("put %s twice: %.99x, not %.99x", told(x), again, want)
		}
		room := make([]byte, len(want), len(want)+64)
		copy(room, want)
		got, _, e := readAs(want[0], room)
		if string(room) != want || !bytes.Equal(room[len(want):cap(room)], make([]byte, 64)) {
			t.Errorf("read %.99x: it wrote into what it was handed", want)
		}
		for i := range room {
			room[i] = 0xee
		}
		if !same(got, x) || e != api.OK {
			t.Errorf("read %.99x: %s hangs on what was handed in", want, told(got))
		}
	}
}

func TestListsAreLeft(t *testing.T) { // P6.3: lists that are handed in are neither changed nor kept
	room := append(writes(3), api.Write{Key: "spare", Val: "room"})
	b, _ := record.PutCommit(api.Commit{Time: 1, Writes: room[:3]})
	if want := append(writes(3), api.Write{Key: "spare", Val: "room"}); !reflect.DeepEqual(room, want) {
		t.Error("PutCommit wrote into what it was handed")
	}
	one, _, _ := record.Commit(b)
	other, _, _ := record.Commit(b)
	for i := range one.Writes[:cap(one.Writes)] {
		one.Writes[:cap(one.Writes)][i] = api.Write{Key: "other"}
	}
	if !reflect.DeepEqual(other.Writes, writes(3)) {
		t.Error("two commits that were read share memory")
	}
	pairs := append(manifest(3).Pairs, api.Pair{Number: 77})
	m := manifest(3)
	m.Pairs = pairs[:3]
	b, _ = record.PutManifest(m)
	if want := append(manifest(3).Pairs, api.Pair{Number: 77}); !reflect.DeepEqual(pairs, want) {
		t.Error("PutManifest wrote into what it was handed")
	}
	first, _, _ := record.Manifest(b)
	second, _, _ := record.Manifest(b)
	for i := range first.Pairs[:cap(first.Pairs)] {
		first.Pairs[:cap(first.Pairs)][i] = api.Pair{}
	}
	if !reflect.DeepEqual(second, manifest(3)) {
		t.Error("two manifests that were read share memory")
	}
}

func TestNilAndEmpty(t *testing.T) { // R3: nil and empty lists are one
	for _, list := range [][]api.Write{nil, {}, writes(2)[:0]} {
		checkPut(t, api.Commit{Time: 5, Writes: list}, "C\x05\x00")
	}
	for _, list := range [][]api.Pair{nil, {}, manifest(2).Pairs[:0]} {
		checkPut(t, api.Manifest{Log: 5, Pairs: list}, "M\x00\x05\x00")
		checkNotPut(t, api.Manifest{Time: 1, Log: 5, Pairs: list})
	}
	for i := range kinds {
		for _, b := range [][]byte{nil, {}} {
			if got, at, e := readAs(kinds[i], b); !same(got, zero(kinds[i])) || at != 0 || e != api.ErrRecordByte {
				t.Errorf("read nothing as %c: %v %d %v", kinds[i], got, at, e)
			}
		}
	}
}
