package frame_test

import (
	"bytes"
	"hash/crc32"
	"math"
	"math/bits"
	"testing"

	"varve/api"
	"varve/frame"
)

const most = math.MaxUint64

// filled is so many bytes, no two neighbours the same, the kinds of blocks among them.
func filled(n int) []byte {
	b := make([]byte, n)
	for i := range b {
		b[i] = byte(i*7 + 0xA1)
	}
	return b
}

func put(t *testing.T, b []byte, seq uint64, body []byte) []byte {
	t.Helper()
	out, e := frame.Put(b, seq, body)
	if e != api.OK {
		t.Fatalf("Put(%d bytes, %d, %d bytes): %v", len(b), seq, len(body), e)
	}
	return out
}

// row is frames of these numbers, one behind the other, each with another body.
func row(t *testing.T, seqs ...uint64) ([]byte, [][]byte) {
	t.Helper()
	var b []byte
	var bodies [][]byte
	for i, seq := range seqs {
		body := append([]byte("body "), byte('a'+i))
		b, bodies = put(t, b, seq, body), append(bodies, body)
	}
	return b, bodies
}

// mixed is frames of one, two and three blocks, numbered from first on, their bodies, and where each ends.
func mixed(t *testing.T, first uint64) ([]byte, [][]byte, []int) {
	t.Helper()
	var b []byte
	var bodies [][]byte
	var ends []int
	for i, n := range []int{2, 42, 0, 11, 43} {
		body := filled(n)
		b = put(t, b, first+uint64(i), body)
		bodies, ends = append(bodies, body), append(ends, len(b))
	}
	return b, bodies, ends
}

// wholeUpTo is how many frames end at a place or ahead of it, and where the last of these ends.
func wholeUpTo(ends []int, place int) (int, int) {
	count, end := 0, 0
	for count < len(ends) && ends[count] <= place {
		end = ends[count]
		count++
	}
	return count, end
}

// roomy is bytes with spare room behind them, filled so that a write there shows.
func roomy(b []byte) []byte {
	long := append(bytes.Clone(b), bytes.Repeat([]byte{0xEE}, 200)...)
	return long[:len(b)]
}

func whole(b []byte) []byte { return b[:cap(b)] }

func fill(b []byte, x byte) {
	b = whole(b)
	for i := range b {
		b[i] = x
	}
}

func noFrame(t *testing.T, b []byte, at int, why string) {
	t.Helper()
	if seq, body, next, ok := frame.Take(b, at); seq != 0 || len(body) != 0 || next != 0 || ok {
		t.Errorf("Take of %s, at %d: %d %.99x %d %v", why, at, seq, body, next, ok)
	}
}

func TestExamples(t *testing.T) { // P4.1, P4.2, P4.3: the chapter's table
	head := "\x05\x00\x00\x00\x00\x00\x00\x00\x02\x00\x00\x00"
	sum := func(s string) string {
		c := crc32.ChecksumIEEE([]byte(s))
		return string([]byte{byte(c), byte(c >> 8), byte(c >> 16), byte(c >> 24)})
	}
	data := head + sum(head) + "ab"
	want := "\xa1" + data + sum(data) + "\x00\x00\x00\x00\x00\x00\x00\x00\x00"
	it := put(t, nil, 5, []byte("ab"))
	if string(it) != want {
		t.Fatalf("Put(none, 5, ab): %x, not %x", it, want)
	}
	if b, e := frame.Put([]byte{1}, 0, nil); len(b) != 0 || e != api.ErrArg {
		t.Errorf("Put(one byte, 0, none): %x %v", b, e)
	}
	if b, e := frame.Put(nil, 0, make([]byte, 65537)); len(b) != 0 || e != api.ErrFrameLong {
		t.Errorf("Put(none, 0, 65537 bytes): %d bytes, %v", len(b), e)
	}
	if b, e := frame.Put(nil, 0, make([]byte, 12)); len(b) != 64 || e != api.OK || b[32] != 0xB2 {
		t.Errorf("Put(none, 0, 12 bytes): %x %v", b, e)
	}
	if seq, body, next, ok := frame.Take(it, 0); seq != 5 || string(body) != "ab" || next != 32 || !ok {
		t.Errorf("Take(it, 0): %d %q %d %v", seq, body, next, ok)
	}
	noFrame(t, it, 32, "it")
	noFrame(t, it, 1, "it")
	noFrame(t, it[:31], 0, "its first 31 bytes")
	ab := [][]byte{[]byte("ab")}
	checkAll(t, it, 5, ab, 32, api.OK)
	checkAll(t, it, 6, nil, 0, api.OK)
	checkAll(t, it, 4, nil, 0, api.ErrFrameCorrupt)
	checkAll(t, append(bytes.Clone(it), 7, 8), 5, ab, 32, api.OK)
	checkAll(t, nil, 9, nil, 0, api.OK)
}

func TestPutAndTakeOfAllSizes(t *testing.T) { // P4.1, P4.2; Take of Put is the seq and the body
	other := put(t, nil, 77, []byte("another one"))
	for _, x := range []struct{ size, blocks int }{
		{0, 1}, {1, 1}, {10, 1}, {11, 1}, {12, 2}, {41, 2}, {42, 2}, {43, 3}, {73, 3}, {74, 4}, {65535, 2115}, {65536, 2115},
	} {
		for _, seq := range []uint64{0, 1, 5, 1 << 8, 0x0102030405060708, 1 << 63, most} {
			body := filled(x.size)
			b := put(t, other, seq, body)
			want := append(bytes.Clone(other), right(seq, body).laid()...)
			if !bytes.Equal(b, want) || len(b) != 32*(x.blocks+1) {
				t.Fatalf("Put of %d bytes, %d: %d bytes, not %d", x.size, seq, len(b), 32*(x.blocks+1))
			}
			for _, behind := range [][]byte{nil, {0}, {0xB2}, other} {
				all := append(bytes.Clone(b), behind...)
				gotSeq, gotBody, next, ok := frame.Take(all, 32)
				if gotSeq != seq || !bytes.Equal(gotBody, body) || next != len(b) || !ok {
					t.Errorf("Take of %d bytes, %d: %d, %d bytes, %d, %v", x.size, seq, gotSeq, len(gotBody), next, ok)
				}
			}
		}
	}
}

func TestPutsErrors(t *testing.T) { // P4.1, R2
	for _, ahead := range []int{1, 2, 16, 31, 33, 63, 65} {
		for _, size := range []int{0, 1, 65536, 65537, 70000} {
			if b, e := frame.Put(make([]byte, ahead), 3, make([]byte, size)); len(b) != 0 || e != api.ErrArg {
				t.Errorf("Put(%d bytes, 3, %d bytes): %d bytes, %v", ahead, size, len(b), e)
			}
		}
	}
	for _, ahead := range []int{0, 32, 64} {
		for _, size := range []int{65537, 65538, 131072} {
			if b, e := frame.Put(make([]byte, ahead), 3, make([]byte, size)); len(b) != 0 || e != api.ErrFrameLong {
				t.Errorf("Put(%d bytes, 3, %d bytes): %d bytes, %v", ahead, size, len(b), e)
			}
		}
		if b, e := frame.Put(filled(ahead), 3, filled(65536)); len(b) != ahead+2115*32 || e != api.OK || !bytes.Equal(b[:ahead], filled(ahead)) {
			t.Errorf("Put(%d bytes, 3, 65536 bytes): %d bytes, %v", ahead, len(b), e)
		}
	}
}

func TestPutAnswersNewMemory(t *testing.T) { // P4.1, R3
	for _, ahead := range []int{0, 32, 64} {
		for _, size := range []int{0, 2, 11, 12, 43} {
			b, body := roomy(filled(ahead)), roomy(filled(size))
			bWas, bodyWas := bytes.Clone(whole(b)), bytes.Clone(whole(body))
			first, second := put(t, b, 3, body), put(t, b, 3, body)
			kept := bytes.Clone(second)
			fill(first, 0x11)
			if !bytes.Equal(whole(b), bWas) || !bytes.Equal(whole(body), bodyWas) {
				t.Errorf("Put of %d behind %d bytes: what was handed in is another", size, ahead)
			}
			fill(b, 0x22)
			fill(body, 0x33)
			if !bytes.Equal(second, kept) {
				t.Errorf("Put of %d behind %d bytes: an answer hangs on what is not its own", size, ahead)
			}
		}
	}
}

func TestTakeAnswersNewMemory(t *testing.T) { // P4.2, R3
	for _, size := range []int{0, 2, 11, 12, 43} {
		b := roomy(put(t, filled(32), 3, filled(size)))
		was := bytes.Clone(whole(b))
		_, first, _, _ := frame.Take(b, 32)
		_, second, _, _ := frame.Take(b, 32)
		fill(first, 0x11)
		if !bytes.Equal(whole(b), was) {
			t.Errorf("Take of %d bytes: what was handed in is another", size)
		}
		fill(b, 0x22)
		if !bytes.Equal(second, filled(size)) {
			t.Errorf("Take of %d bytes: an answer hangs on what is not its own: %x", size, second)
		}
	}
}

func TestAllAnswersNewMemory(t *testing.T) { // P4.3, R3
	frames, bodies, _ := mixed(t, 3)
	b := roomy(frames)
	was := bytes.Clone(whole(b))
	first, _, _ := frame.All(b, 3)
	second, _, _ := frame.All(b, 3)
	for i := range first {
		fill(first[i], 0x11)
		for k := range first {
			if k > i && !bytes.Equal(first[k], bodies[k]) {
				t.Errorf("the bodies %d and %d share memory", i, k)
			}
		}
	}
	if !bytes.Equal(whole(b), was) {
		t.Error("All: what was handed in is another")
	}
	fill(b, 0x22)
	if !sameBodies(second, bodies) {
		t.Errorf("All: an answer hangs on what is not its own: %x", second)
	}
	for i := range second {
		_ = append(second[i], "more"...)
	}
	if !sameBodies(second, bodies) {
		t.Error("All: what is laid behind a body falls into another one")
	}
}

func TestTakesPlaces(t *testing.T) { // P4.2, R1
	b, _, ends := mixed(t, 3)
	starts := map[int]int{}
	at := 0
	for _, end := range ends {
		starts[at] = end
		at = end
	}
	for at := -100; at < len(b)+100; at++ {
		_, _, next, ok := frame.Take(b, at)
		want, stands := starts[at]
		if ok != stands || next != want {
			t.Errorf("Take at %d: %d %v, not %d %v", at, next, ok, want, stands)
		}
	}
	for _, at := range []int{math.MinInt, math.MinInt + 1, -1 << 32, -32, -1, 1 << 32, math.MaxInt - 31, math.MaxInt} {
		noFrame(t, b, at, "frames")
	}
	for _, at := range []int{math.MinInt, -32, 0, 1, 32, math.MaxInt} {
		noFrame(t, nil, at, "none")
	}
	for off := 1; off < 64; off++ {
		if off%32 != 0 {
			noFrame(t, append(make([]byte, off), b...), off, "a frame at no multiple of 32")
		}
	}
}

// headAgain and sumAgain set a sum right behind what the other one is meant to tell.
func headAgain(p parts) parts {
	p.headSum = crc32.ChecksumIEEE(p.head())
	return p
}

func sumAgain(p parts) parts {
	p.sum = crc32.ChecksumIEEE(p.ahead())
	return p
}

func TestTakeOfWrongNumbers(t *testing.T) { // P4.2, T6
	for _, size := range []int{0, 2, 10, 11, 12, 42, 43, 65536} {
		p := right(9, filled(size))
		for name, wrong := range map[string]parts{
			"another seq":                       {p.seq + 1, p.length, p.headSum, p.body, p.sum},
			"another seq, told by the head":     sumAgain(parts{p.seq ^ 1<<63, p.length, p.headSum, p.body, 0}),
			"another sum of the head":           {p.seq, p.length, p.headSum ^ 1, p.body, p.sum},
			"such a sum, told by the head":      sumAgain(parts{p.seq, p.length, p.headSum ^ 1<<31, p.body, 0}),
			"another sum, in its lowest bit":    {p.seq, p.length, p.headSum, p.body, p.sum ^ 1},
			"another sum, in its highest bit":   {p.seq, p.length, p.headSum, p.body, p.sum ^ 1<<31},
			"the head's sum for the frame's":    {p.seq, p.length, p.headSum, p.body, p.headSum},
			"the body's sum for the frame's":    {p.seq, p.length, p.headSum, p.body, crc32.ChecksumIEEE(p.body)},
			"a sum with its highest byte first": {p.seq, p.length, p.headSum, p.body, bits.ReverseBytes32(p.sum)},
			"a length of 1 less":                sumAgain(headAgain(parts{p.seq, p.length - 1, 0, p.body, 0})),
			"a length of 1 more":                sumAgain(headAgain(parts{p.seq, p.length + 1, 0, p.body, 0})),
			"a length of 1 more, and no sum":    {p.seq, p.length + 1, p.headSum, p.body, p.sum},
			"a length of 40 more":               sumAgain(headAgain(parts{p.seq, p.length + 40, 0, p.body, 0})),
			"a length of 2^17 more":             sumAgain(headAgain(parts{p.seq, p.length + 1<<17, 0, p.body, 0})),
			"a length of 2^31":                  sumAgain(headAgain(parts{p.seq, 1 << 31, 0, p.body, 0})),
			"a length of 2^32 - 1":              sumAgain(headAgain(parts{p.seq, 1<<32 - 1, 0, p.body, 0})),
		} {
			noFrame(t, wrong.laid(), 0, name)
		}
	}
}

func TestTakeOfWrongBlocks(t *testing.T) { // P4.2, T6
	for _, size := range []int{0, 2, 10, 11, 12, 42, 43, 500} {
		good := right(9, filled(size)).laid()
		for i := range good {
			if i%32 == 0 {
				for _, kind := range []byte{0, 0xA1, 0xB2, 0xA1 ^ 255, 0xB2 ^ 255, 0xA0, 0xB3} {
					b := bytes.Clone(good)
					b[i] = kind
					if kind != good[i] {
						noFrame(t, b, 0, "another kind")
					}
				}
				continue
			}
			if behind := i/32*31+i%32 > 20+size; behind {
				for _, x := range []byte{1, 0x80, 0xA1, 255} {
					b := bytes.Clone(good)
					b[i] = x
					noFrame(t, b, 0, "no nought behind the end")
				}
			}
		}
		for gone := 1; gone <= 32; gone++ {
			noFrame(t, good[:len(good)-gone], 0, "a short last block")
		}
		noFrame(t, append(good[:len(good)-32:len(good)-32], make([]byte, 64)...), 0, "a last block of noughts")
	}
}

func TestTakeOfTooLongBodies(t *testing.T) { // P4.2: right in all but the length
	for _, size := range []int{65537, 65538, 70000, 131072} {
		b := right(5, filled(size)).laid()
		noFrame(t, b, 0, "a body of more than 65536 bytes")
		checkAll(t, b, 5, nil, 0, api.OK)
	}
}

func TestAllsNumbers(t *testing.T) { // P4.3
	for _, x := range []struct {
		name  string
		seqs  []uint64
		first uint64
		count int // how many are told; below 0: ErrFrameCorrupt
	}{
		{"rising", []uint64{0, 1, 2, 3}, 0, 4},
		{"rising, from 5 on", []uint64{5, 6, 7}, 5, 3},
		{"rising, looked for from below", []uint64{5, 6, 7}, 4, -1},
		{"rising, looked for from 0 on", []uint64{5, 6, 7}, 0, -1},
		{"rising, looked for from the second on", []uint64{5, 6, 7}, 6, -1},
		{"rising, looked for from the last on", []uint64{5, 6, 7}, 7, -1},
		{"rising, looked for from above", []uint64{5, 6, 7}, 8, 0},
		{"rising, looked for from far above", []uint64{5, 6, 7}, most, 0},
		{"standing still", []uint64{5, 5}, 5, 1},
		{"standing still, and one more", []uint64{5, 5, 6}, 5, -1},
		{"falling", []uint64{5, 4}, 5, 1},
		{"falling, and again", []uint64{5, 6, 0, 1, 6}, 5, 2},
		{"falling, and up to what was looked for", []uint64{5, 6, 0, 1, 7}, 5, -1},
		{"falling, and above", []uint64{5, 6, 0, 9}, 5, -1},
		{"skipping one", []uint64{5, 7}, 5, -1},
		{"skipping many", []uint64{5, 6, most}, 5, -1},
		{"going round", []uint64{most - 1, most, 0, 1}, most - 1, 4},
		{"going round from the last on", []uint64{most, 0}, most, 2},
		{"going round, then skipping", []uint64{most, 1}, most, -1},
		{"going round, then the last again", []uint64{most, most}, most, -1},
		{"not yet round", []uint64{most - 1, 0}, most - 1, 1},
		{"the last, looked for from 0 on", []uint64{most}, 0, -1},
		{"0, looked for from the last on", []uint64{0}, most, 0},
		{"0 alone", []uint64{0}, 0, 1},
	} {
		b, bodies := row(t, x.seqs...)
		gotBodies, at, e := frame.All(b, x.first)
		if x.count < 0 {
			if len(gotBodies) != 0 || at != 0 || e != api.ErrFrameCorrupt {
				t.Errorf("%s: %x %d %v, not ErrFrameCorrupt", x.name, gotBodies, at, e)
			}
			continue
		}
		if !sameBodies(gotBodies, bodies[:x.count]) || at != 32*x.count || e != api.OK {
			t.Errorf("%s: %x %d %v, not the first %d", x.name, gotBodies, at, e, x.count)
		}
	}
}

func TestAllLooksBehindWhatIsTorn(t *testing.T) { // P4.3
	ahead, bodies, _ := mixed(t, 3) // 8 is looked for behind it
	gaps := [][]byte{
		make([]byte, 32),
		filled(96),
		append([]byte{0xA1}, make([]byte, 31)...),
		bytes.Repeat([]byte{0xB2}, 320),
		right(8, filled(100)).laid()[:64],
		right(8, filled(65536)).laid()[:64], // a head that promises much
	}
	later := []struct {
		seq uint64
		e   api.Errno
	}{{0, api.OK}, {3, api.OK}, {7, api.OK}, {8, api.ErrFrameCorrupt}, {9, api.ErrFrameCorrupt}, {most, api.ErrFrameCorrupt}}
	for _, gap := range gaps {
		for _, x := range later {
			for _, size := range []int{0, 11, 43, 500} {
				b := put(t, append(bytes.Clone(ahead), gap...), x.seq, filled(size))
				for _, behind := range [][]byte{nil, {0xA1}, make([]byte, 33)} {
					checkBehind(t, append(bytes.Clone(b), behind...), bodies, len(ahead), x.e)
				}
			}
		}
	}
	// The frame that is looked for, at no multiple of 32: it is none.
	off := append(append(bytes.Clone(ahead), 0), right(8, nil).laid()...)
	checkBehind(t, off, bodies, len(ahead), api.OK)
}

// checkBehind asks All of bytes for 3 and what follows: these bodies, or the error alone.
func checkBehind(t *testing.T, b []byte, bodies [][]byte, at int, e api.Errno) {
	t.Helper()
	if e != api.OK {
		bodies, at = nil, 0
	}
	checkAll(t, b, 3, bodies, at, e)
}

func TestAllOfMuchThatIsNone(t *testing.T) { // P4.3, R1: heads that promise much and keep nothing
	head := right(0, filled(65536)).laid()[:32]
	checkAll(t, bytes.Repeat(head, 1<<15), 0, nil, 0, api.OK)
	checkAll(t, make([]byte, 1<<20), 0, nil, 0, api.OK)
	checkAll(t, bytes.Repeat([]byte{0xA1}, 1<<20+1), 0, nil, 0, api.OK)
}

// What a crash leaves is told.
func TestAllOfWhatACrashLeaves(t *testing.T) { // P4.3
	for _, first := range []uint64{0, 5, most - 2} {
		frames, bodies, ends := mixed(t, first)
		for end := range len(frames) + 1 {
			for torn := range end + 1 {
				b := bytes.Clone(frames[:end])
				for i := end - torn; i < end; i++ {
					b[i] ^= 255
				}
				count, at := wholeUpTo(ends, end-torn)
				checkAll(t, b, first, bodies[:count], at, api.OK)
			}
		}
	}
}

func TestAllOfALongFrameThatIsTorn(t *testing.T) { // P4.3
	short := []byte("short")
	frames := put(t, put(t, nil, 0, short), 1, filled(65536))
	for _, end := range []int{33, 64, 65, 1024, len(frames) - 32, len(frames) - 1, len(frames)} {
		for _, torn := range []int{0, 1, 8, 9, 31, 32, 33, end - 33, end - 32} {
			b := bytes.Clone(frames[:end])
			for i := max(32, end-torn); i < end; i++ {
				b[i] ^= 255
			}
			if end == len(frames) && torn == 0 {
				checkAll(t, b, 0, [][]byte{short, filled(65536)}, end, api.OK)
				continue
			}
			checkAll(t, b, 0, [][]byte{short}, 32, api.OK)
		}
	}
}

// What no crash leaves is told, too. (Not where numbers go round: a frame behind is below the one that is looked for there.)
func TestAllOfOneOtherByte(t *testing.T) { // P4.2, P4.3
	for _, first := range []uint64{0, 5} {
		frames, bodies, ends := mixed(t, first)
		last := len(ends) - 1
		for at := range frames {
			which, begin := wholeUpTo(ends, at)
			for x := range 256 {
				if byte(x) == frames[at] {
					continue
				}
				b := bytes.Clone(frames)
				b[at] = byte(x)
				noFrame(t, b, begin, "one other byte")
				got, place, e := frame.All(b, first)
				corrupt := e == api.ErrFrameCorrupt && len(got) == 0 && place == 0
				ahead := e == api.OK && sameBodies(got, bodies[:last]) && place == ends[last-1]
				if !corrupt && (which < last || !ahead) {
					t.Fatalf("the byte %d is %x: %x %d %v", at, x, got, place, e)
				}
			}
		}
	}
}

// A body may have the bytes of a frame in it: that one stands nowhere, but where a block's kind is turned to begin it.
func TestAFrameWithinABody(t *testing.T) { // P4.2, P4.3
	for _, x := range []struct {
		inner uint64
		e     api.Errno
	}{{4, api.OK}, {5, api.ErrFrameCorrupt}, {9, api.ErrFrameCorrupt}} {
		inner := right(x.inner, []byte("within")).laid()
		body := append(filled(15), inner[1:]...) // so that the inner frame's bytes fill the second block
		b := put(t, nil, 5, body)
		if !bytes.Equal(b[33:64], inner[1:]) {
			t.Fatal("the inner frame does not fill the second block")
		}
		noFrame(t, b, 32, "a block that goes on")
		checkAll(t, b, 5, [][]byte{body}, len(b), api.OK)
		b[32] = 0xA1
		noFrame(t, b, 0, "a frame whose second block begins another")
		checkAll(t, b, 5, nil, 0, x.e)
	}
}
