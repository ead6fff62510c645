package num_test

import (
	"bytes"
	"encoding/binary"
	"hash/crc32"
	"math"
	"strings"
	"testing"

	"varve/num"
)

// edges are the numbers around each power of two: every count of groups begins and ends among them.
func edges() []uint64 {
	out := []uint64{0, 300, math.MaxUint64}
	for k := range 64 {
		p := uint64(1) << k
		out = append(out, p-1, p, p+1)
	}
	return out
}

// roomy is bytes with spare room behind them, filled so that a write there shows.
func roomy(s string) []byte {
	b := append([]byte(s), strings.Repeat("\xee", 40)...)
	return b[:len(s)]
}

// whole is a list's bytes with those of its spare room.
func whole(b []byte) []byte { return b[:cap(b)] }

func fill(b []byte, x byte) {
	b = whole(b)
	for i := range b {
		b[i] = x
	}
}

func TestPutForms(t *testing.T) { // P1.1
	for _, x := range []struct {
		ahead string
		n     uint64
		want  string
	}{
		{"", 0, "\x00"},
		{"", 1, "\x01"},
		{"", 127, "\x7f"},
		{"", 128, "\x80\x01"},
		{"", 300, "\xac\x02"},
		{"", 16383, "\xff\x7f"},
		{"", 16384, "\x80\x80\x01"},
		{"", 1<<63 - 1, "\xff\xff\xff\xff\xff\xff\xff\xff\x7f"},
		{"", 1 << 63, "\x80\x80\x80\x80\x80\x80\x80\x80\x80\x01"},
		{"", 1<<64 - 1, "\xff\xff\xff\xff\xff\xff\xff\xff\xff\x01"},
		{"a\x80\x00", 300, "a\x80\x00\xac\x02"},
		{"ab", 0, "ab\x00"},
	} {
		if got := num.Put([]byte(x.ahead), x.n); string(got) != x.want {
			t.Errorf("Put(%x, %d): %x, not %x", x.ahead, x.n, got, x.want)
		}
	}
	if got := num.Put(nil, 5); string(got) != "\x05" {
		t.Errorf("Put(nil, 5): %x", got)
	}
}

func TestPutIsTheLeastForm(t *testing.T) { // P1.1
	for _, n := range edges() {
		want := binary.AppendUvarint([]byte("ahead"), n)
		if got := num.Put([]byte("ahead"), n); !bytes.Equal(got, want) {
			t.Errorf("Put(ahead, %d): %x, not %x", n, got, want)
		}
	}
}

func TestPutTextForms(t *testing.T) { // P1.1
	for _, x := range []struct{ ahead, s, lengths string }{
		{"", "", "\x00"},
		{"", "ab", "\x02"},
		{"z", "", "\x00"},
		{"z", "\x00\xff\x80", "\x03"},
		{"\x80", strings.Repeat("k", 127), "\x7f"},
		{"\x80", strings.Repeat("k", 128), "\x80\x01"},
		{"", strings.Repeat("\xc3\xa9", 8192), "\x80\x80\x01"},
	} {
		want := x.ahead + x.lengths + x.s
		if got := num.PutText([]byte(x.ahead), x.s); string(got) != want {
			t.Errorf("PutText(%x, %d bytes): %x, not %x", x.ahead, len(x.s), got, want)
		}
	}
	if got := num.PutText(nil, "a"); string(got) != "\x01a" {
		t.Errorf("PutText(nil, a): %x", got)
	}
}

func TestPutsAnswerNewMemory(t *testing.T) { // P1.1, R3
	puts := map[string]func(b []byte) []byte{
		"Put":           func(b []byte) []byte { return num.Put(b, 300) },
		"Put 0":         func(b []byte) []byte { return num.Put(b, 0) },
		"PutText":       func(b []byte) []byte { return num.PutText(b, "abc") },
		"PutText empty": func(b []byte) []byte { return num.PutText(b, "") },
	}
	for name, put := range puts {
		for _, s := range []string{"", "a", "ahead"} {
			b := roomy(s)
			was := bytes.Clone(whole(b))
			first := put(b)
			if !bytes.Equal(whole(b), was) {
				t.Errorf("%s behind %q wrote into what it was handed: %x", name, s, whole(b))
			}
			second := put(b)
			kept := bytes.Clone(second)
			fill(first, 0x11)
			if !bytes.Equal(whole(b), was) {
				t.Errorf("%s behind %q: the answer shares memory with what was handed in", name, s)
			}
			if !bytes.Equal(second, kept) {
				t.Errorf("%s behind %q: two answers share memory", name, s)
			}
			fill(b, 0x22)
			if !bytes.Equal(second, kept) {
				t.Errorf("%s behind %q: the answer hangs on what was handed in", name, s)
			}
		}
	}
}

func TestTakeForms(t *testing.T) { // P1.2
	nine := strings.Repeat("\xff", 9)
	nineEmpty := strings.Repeat("\x80", 9)
	for _, x := range []struct {
		s    string
		at   int
		n    uint64
		next int
		ok   bool
	}{
		{"\x00", 0, 0, 1, true},
		{"\x7f", 0, 127, 1, true},
		{"\xac\x02", 0, 300, 2, true},
		{"\xac\x02", 1, 2, 2, true},
		{"\xac\x02\xff", 0, 300, 2, true},
		{"xy\xac\x02z", 2, 300, 4, true},
		{"\x80\x00\x05", 1, 0, 2, true},
		{nine + "\x01", 0, math.MaxUint64, 10, true},
		{nineEmpty + "\x01", 0, 1 << 63, 10, true},
		{"a" + nine + "\x01\x80", 1, math.MaxUint64, 11, true},

		{"", 0, 0, 0, false},
		{"\x00", 1, 0, 0, false},
		{"\x00", 2, 0, 0, false},
		{"\x00", -1, 0, 0, false},
		{"\x00", math.MaxInt, 0, 0, false},
		{"\x00", math.MinInt, 0, 0, false},
		{"\x80", 0, 0, 0, false},
		{"\x01\x80", 1, 0, 0, false},
		{nine, 0, 0, 0, false},
		{nineEmpty + "\x80", 0, 0, 0, false},
		{"\x80\x00", 0, 0, 0, false},
		{"\xff\x00", 0, 0, 0, false},
		{"\x81\x80\x00", 0, 0, 0, false},
		{nineEmpty + "\x00", 0, 0, 0, false},
		{nine + "\x00", 0, 0, 0, false},
		{nine + "\x02", 0, 0, 0, false},
		{nine + "\x03", 0, 0, 0, false},
		{nine + "\x7f", 0, 0, 0, false},
		{nine + "\x80\x00", 0, 0, 0, false},
		{nine + "\x81\x00", 0, 0, 0, false},
		{nine + "\x81\x01", 0, 0, 0, false},
		{nine + "\xff\x01", 0, 0, 0, false},
		{nineEmpty + "\x80\x01", 0, 0, 0, false},
	} {
		n, next, ok := num.Take([]byte(x.s), x.at)
		if n != x.n || next != x.next || ok != x.ok {
			t.Errorf("Take(%x, %d): %d %d %v, not %d %d %v", x.s, x.at, n, next, ok, x.n, x.next, x.ok)
		}
	}
	if n, next, ok := num.Take(nil, 0); n != 0 || next != 0 || ok {
		t.Errorf("Take(nil, 0): %d %d %v", n, next, ok)
	}
}

// takenPlainly is what Take answers by the library's word: a number there, and just the bytes that it is laid as.
func takenPlainly(b []byte, at int) (uint64, int, bool) {
	n, k := binary.Uvarint(b[at:])
	if k <= 0 || len(binary.AppendUvarint(nil, n)) != k {
		return 0, 0, false
	}
	return n, at + k, true
}

func checkTake(t *testing.T, b []byte) {
	t.Helper()
	for at := range b {
		wantN, wantNext, wantOK := takenPlainly(b, at)
		n, next, ok := num.Take(b, at)
		if n != wantN || next != wantNext || ok != wantOK {
			t.Fatalf("Take(%x, %d): %d %d %v, not %d %d %v", b, at, n, next, ok, wantN, wantNext, wantOK)
		}
	}
}

func TestTakeOfAllShortBytes(t *testing.T) { // P1.2
	for i := range 256 {
		checkTake(t, []byte{byte(i)})
	}
	for i := range 1 << 16 {
		b := []byte{byte(i), byte(i >> 8)}
		checkTake(t, b)
		checkTake(t, append(b, 0x00))
		checkTake(t, append(b, 0x80, 0x01))
	}
}

func TestTakeOfLongBytes(t *testing.T) { // P1.2
	for _, first := range []string{"\x80", "\x81", "\xaa", "\xff"} {
		for length := range 14 {
			ahead := strings.Repeat(first, length)
			for last := range 256 {
				checkTake(t, append([]byte(ahead), byte(last)))
				checkTake(t, append([]byte(ahead), byte(last), 0x01))
				checkTake(t, append([]byte(ahead), byte(last), 0x00))
			}
		}
	}
}

func TestTakeTextForms(t *testing.T) { // P1.2
	most := math.MaxInt
	long := "\x80\x01" + strings.Repeat("v", 128)
	for _, x := range []struct {
		s        string
		at, most int
		text     string
		next     int
		ok       bool
	}{
		{"\x02ab", 0, 2, "ab", 3, true},
		{"\x02ab", 0, 3, "ab", 3, true},
		{"\x02ab", 0, most, "ab", 3, true},
		{"\x02abc", 0, 2, "ab", 3, true},
		{"z\x02ab", 1, 2, "ab", 4, true},
		{"\x00", 0, 0, "", 1, true},
		{"\x00", 0, 9, "", 1, true},
		{"\x02\x00\xff", 0, 2, "\x00\xff", 3, true},
		{long, 0, 128, long[2:], 130, true},

		{"\x02ab", 0, 1, "", 0, false},
		{"\x02ab", 0, 0, "", 0, false},
		{"\x02ab", 0, -1, "", 0, false},
		{"\x02ab", 0, math.MinInt, "", 0, false},
		{"\x00", 0, -1, "", 0, false},
		{"\x00", 0, math.MinInt, "", 0, false},
		{long, 0, 127, "", 0, false},
		{"\x02a", 0, 2, "", 0, false},
		{"\x02", 0, 2, "", 0, false},
		{"\x03ab", 0, 9, "", 0, false},
		{long[:129], 0, 128, "", 0, false},
		{"", 0, 9, "", 0, false},
		{"\x01a", 2, 9, "", 0, false},
		{"\x01a", 3, 9, "", 0, false},
		{"\x01a", -1, 9, "", 0, false},
		{"\x01a", math.MaxInt, most, "", 0, false},
		{"\x01a", math.MinInt, most, "", 0, false},
		{"\x80", 0, 9, "", 0, false},
		{"\x80\x00", 0, 9, "", 0, false},
		{"\x81\x00a", 0, 9, "", 0, false},
	} {
		text, next, ok := num.TakeText([]byte(x.s), x.at, x.most)
		if text != x.text || next != x.next || ok != x.ok {
			t.Errorf("TakeText(%x, %d, %d): %q %d %v, not %q %d %v", x.s, x.at, x.most, text, next, ok, x.text, x.next, x.ok)
		}
	}
	if text, next, ok := num.TakeText(nil, 0, 9); text != "" || next != 0 || ok {
		t.Errorf("TakeText(nil, 0, 9): %q %d %v", text, next, ok)
	}
}

func TestTakeTextOfHugeLengths(t *testing.T) { // P1.2, R1
	for _, n := range []uint64{1 << 31, 1<<32 + 1, 1<<63 - 11, 1<<63 - 1, 1 << 63, 1<<63 + 1, 1<<64 - 1} {
		b := append(num.Put([]byte("x"), n), "ab"...)
		for _, most := range []int{0, 1, 2, math.MaxInt, -1, math.MinInt} {
			if text, next, ok := num.TakeText(b, 1, most); text != "" || next != 0 || ok {
				t.Errorf("TakeText of a length %d, at most %d: %q %d %v", n, most, text, next, ok)
			}
		}
	}
}

func TestTakesReadNoSpareRoom(t *testing.T) { // P1.2, R3
	b := []byte("\xac\x02ab")
	if n, next, ok := num.Take(b[:1], 0); n != 0 || next != 0 || ok {
		t.Errorf("a number that ends in spare room: %d %d %v", n, next, ok)
	}
	if n, next, ok := num.Take(b[:1], 1); n != 0 || next != 0 || ok {
		t.Errorf("a number that begins in spare room: %d %d %v", n, next, ok)
	}
	if text, next, ok := num.TakeText(b[:3], 1, 9); text != "" || next != 0 || ok {
		t.Errorf("a text that ends in spare room: %q %d %v", text, next, ok)
	}
}

func TestReadersLeaveWhatIsHandedIn(t *testing.T) { // R3
	for _, s := range []string{"", "\x02ab", "\xac\x02", "\x80", "\x80\x00"} {
		b := roomy(s)
		was := bytes.Clone(whole(b))
		num.Take(b, 0)
		num.TakeText(b, 0, 9)
		num.Crc(b, b)
		if !bytes.Equal(whole(b), was) {
			t.Errorf("%x: written into: %x", s, whole(b))
		}
	}
	parts := [][]byte{[]byte("12"), nil, []byte("3"), []byte("spare")}
	num.Crc(parts[:3]...)
	if string(parts[0]) != "12" || parts[1] != nil || string(parts[2]) != "3" || string(parts[3]) != "spare" {
		t.Errorf("the list of parts is not as it was: %q", parts)
	}
}

func TestTakenTextIsNewMemory(t *testing.T) { // R3
	b := []byte("\x02ab")
	text, _, _ := num.TakeText(b, 0, 2)
	fill(b, 'z')
	if text != "ab" {
		t.Errorf("the text changed with the bytes that it was read from: %q", text)
	}
}

func TestCrcForms(t *testing.T) { // P1.3
	for _, x := range []struct {
		parts []string
		want  uint32
	}{
		{nil, 0},
		{[]string{""}, 0},
		{[]string{"", "", ""}, 0},
		{[]string{"123456789"}, 0xCBF43926},
		{[]string{"1234", "56789"}, 0xCBF43926},
		{[]string{"", "1", "", "23456789", ""}, 0xCBF43926},
		{[]string{"\x00"}, 0xD202EF8D},
		{[]string{"\x00", "\x00", "\x00", "\x00"}, 0x2144DF1C},
		{[]string{"\xff\xff\xff\xff"}, 0xFFFFFFFF},
		{[]string{"a"}, 0xE8B7BE43},
	} {
		var parts [][]byte
		for _, p := range x.parts {
			parts = append(parts, []byte(p))
		}
		if got := num.Crc(parts...); got != x.want {
			t.Errorf("Crc(%q): %08X, not %08X", x.parts, got, x.want)
		}
	}
	if got := num.Crc(nil, nil); got != 0 {
		t.Errorf("Crc of nil parts: %08X", got)
	}
	if got := num.Crc(nil, []byte("123456789"), nil); got != 0xCBF43926 {
		t.Errorf("Crc between nil parts: %08X", got)
	}
}

// longBytes has every byte, in an order without a short period.
func longBytes(length int) []byte {
	b := make([]byte, length)
	for i := range b {
		b[i] = byte(i*i/3 + 7*i)
	}
	return b
}

func TestCrcAgainstLibrary(t *testing.T) { // P1.3
	for i := range 256 {
		b := []byte{byte(i)}
		if got, want := num.Crc(b), crc32.ChecksumIEEE(b); got != want {
			t.Errorf("Crc(%x): %08X, not %08X", b, got, want)
		}
	}
	b := longBytes(1 << 16)
	for _, length := range []int{2, 3, 4, 5, 7, 8, 9, 255, 256, 257, 1000, 1 << 16} {
		if got, want := num.Crc(b[:length]), crc32.ChecksumIEEE(b[:length]); got != want {
			t.Errorf("Crc of %d bytes: %08X, not %08X", length, got, want)
		}
	}
}

func TestTakeOfPutWhereverItStands(t *testing.T) { // P1.4
	for _, n := range edges() {
		for _, ahead := range []string{"", "\x00", "\x80", "\xff\xff", strings.Repeat("\x80", 12)} {
			for _, behind := range []string{"", "\x00", "\x01", "\x80", "\xff\x7f", strings.Repeat("\xff", 12)} {
				b := num.Put([]byte(ahead), n)
				end := len(b)
				b = append(b, behind...)
				got, next, ok := num.Take(b, len(ahead))
				if got != n || next != end || !ok {
					t.Errorf("Take of Put of %d behind %x, ahead of %x: %d %d %v", n, ahead, behind, got, next, ok)
				}
			}
		}
	}
}

func TestTakeTextOfPutText(t *testing.T) { // P1.4
	for _, s := range []string{"", "a", "\x00", "\x80\x00", strings.Repeat("w", 127), strings.Repeat("\xff", 128), strings.Repeat("k", 20000)} {
		for _, behind := range []string{"", "\x00", "\xff"} {
			b := append(num.PutText([]byte("ahead"), s), behind...)
			text, next, ok := num.TakeText(b, 5, len(s))
			if text != s || next != len(b)-len(behind) || !ok {
				t.Errorf("TakeText of PutText of %d bytes ahead of %x: %d bytes, %d %v", len(s), behind, len(text), next, ok)
			}
		}
	}
}

func TestNumbersStandOneBehindTheOther(t *testing.T) { // P1.4
	var b []byte
	for _, n := range edges() {
		b = num.Put(b, n)
	}
	at := 0
	for _, want := range edges() {
		n, next, ok := num.Take(b, at)
		if n != want || next <= at || !ok {
			t.Fatalf("at %d: %d %d %v, not %d", at, n, next, ok, want)
		}
		at = next
	}
	if at != len(b) {
		t.Errorf("%d bytes are left", len(b)-at)
	}
}

func TestNoNumberBeginsAnother(t *testing.T) { // P1.4
	all := edges()
	for n := range uint64(300) {
		all = append(all, n)
	}
	for _, n := range all {
		one := num.Put(nil, n)
		for _, m := range all {
			if n != m && bytes.HasPrefix(num.Put(nil, m), one) {
				t.Errorf("the bytes of %d begin those of %d", n, m)
			}
		}
		for length := range one {
			if _, _, ok := num.Take(one[:length], 0); ok {
				t.Errorf("the first %d bytes of %d are a number", length, n)
			}
		}
	}
}

func TestCrcDoesNotHangOnCuts(t *testing.T) { // P1.4
	b := longBytes(60)
	want := num.Crc(b)
	for i := range len(b) + 1 {
		for j := i; j <= len(b); j++ {
			if got := num.Crc(b[:i], b[i:j], b[j:]); got != want {
				t.Errorf("cut at %d and %d: %08X, not %08X", i, j, got, want)
			}
		}
	}
	var single [][]byte
	for i := range b {
		single = append(single, b[i:i+1])
	}
	if got := num.Crc(single...); got != want {
		t.Errorf("byte by byte: %08X, not %08X", got, want)
	}
}

func TestOneTurnedByteTurnsCrc(t *testing.T) { // P1.4
	for _, length := range []int{1, 2, 9, 100} {
		b := longBytes(length)
		want := num.Crc(b)
		for at := range b {
			was := b[at]
			for turn := 1; turn < 256; turn++ {
				b[at] = was ^ byte(turn)
				if num.Crc(b) == want {
					t.Errorf("%d bytes: the byte at %d turned by %02X is not told", length, at, turn)
				}
			}
			b[at] = was
		}
	}
}
