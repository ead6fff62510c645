package frame_test

import (
	"bytes"
	"encoding/binary"
	"hash/crc32"
	"math/rand"
	"testing"

	"varve/api"
	"varve/frame"
)

// parts is a frame of which each number may be wrong: those of a right one are right's.
type parts struct {
	seq     uint64
	length  uint32
	headSum uint32
	body    []byte
	sum     uint32
}

func right(seq uint64, body []byte) parts {
	p := parts{seq: seq, length: uint32(len(body)), body: body}
	p.headSum = crc32.ChecksumIEEE(p.head())
	p.sum = crc32.ChecksumIEEE(p.ahead())
	return p
}

func (p parts) head() []byte {
	b := binary.LittleEndian.AppendUint64(nil, p.seq)
	return binary.LittleEndian.AppendUint32(b, p.length)
}

func (p parts) ahead() []byte {
	b := binary.LittleEndian.AppendUint32(p.head(), p.headSum)
	return append(b, p.body...)
}

// laid is the frame in blocks, told byte by byte.
func (p parts) laid() []byte {
	data := binary.LittleEndian.AppendUint32(p.ahead(), p.sum)
	var out []byte
	for i, x := range data {
		if i%31 == 0 {
			out = append(out, 0xB2)
		}
		out = append(out, x)
	}
	for len(out)%32 != 0 {
		out = append(out, 0)
	}
	out[0] = 0xA1
	return out
}

// taken tells more plainly whether a frame stands at a place: what its bytes say is laid again, and must come out as they are.
func taken(b []byte, at int) (uint64, []byte, int, bool) {
	if at < 0 || at%32 != 0 || at > len(b)-32 {
		return 0, nil, 0, false
	}
	var data []byte
	for i, x := range b[at:] {
		if i%32 != 0 {
			data = append(data, x)
		}
		if len(data) == 16+api.MaxFrame {
			break
		}
	}
	seq := binary.LittleEndian.Uint64(data)
	length := int(binary.LittleEndian.Uint32(data[8:]))
	if length > api.MaxFrame || length > len(data)-16 {
		return 0, nil, 0, false
	}
	body := data[16 : 16+length]
	again := right(seq, body).laid()
	if !bytes.HasPrefix(b[at:], again) {
		return 0, nil, 0, false
	}
	return seq, body, at + len(again), true
}

// told is what All answers, told by taken.
func told(b []byte, first uint64) ([][]byte, int, api.Errno) {
	var bodies [][]byte
	at := 0
	for {
		seq, body, next, ok := taken(b, at)
		if !ok || seq != first {
			break
		}
		bodies, at, first = append(bodies, body), next, first+1
	}
	for later := at; later <= len(b); later++ {
		if seq, _, _, ok := taken(b, later); ok && seq >= first {
			return nil, 0, api.ErrFrameCorrupt
		}
	}
	return bodies, at, api.OK
}

func sameBodies(x, y [][]byte) bool {
	if len(x) != len(y) {
		return false
	}
	for i := range x {
		if !bytes.Equal(x[i], y[i]) {
			return false
		}
	}
	return true
}

// checkTake holds Take at a place against the plainer one.
func checkTake(t *testing.T, b []byte, at int) {
	t.Helper()
	wantSeq, wantBody, wantNext, wantOK := taken(b, at)
	seq, body, next, ok := frame.Take(b, at)
	if seq != wantSeq || !bytes.Equal(body, wantBody) || next != wantNext || ok != wantOK {
		t.Fatalf("Take(%.999x, %d): %d %.99x %d %v, not %d %.99x %d %v", b, at, seq, body, next, ok, wantSeq, wantBody, wantNext, wantOK)
	}
}

// checkAll holds All against what it must answer.
func checkAll(t *testing.T, b []byte, first uint64, bodies [][]byte, at int, e api.Errno) {
	t.Helper()
	gotBodies, gotAt, gotE := frame.All(b, first)
	if !sameBodies(gotBodies, bodies) || gotAt != at || gotE != e {
		t.Fatalf("All(%.999x, %d): %.99x %d %v, not %.99x %d %v", b, first, gotBodies, gotAt, gotE, bodies, at, e)
	}
}

// someBytes are frames, torn ones and rubbish, one behind the other: some of their numbers stand in a row.
func someBytes(r *rand.Rand) ([]byte, uint64) {
	seq := []uint64{0, 5, 1<<64 - 2}[r.Intn(3)]
	first := seq + []uint64{0, 0, 0, 0, 1, 1<<64 - 1}[r.Intn(6)]
	var b []byte
	for range r.Intn(5) {
		body := make([]byte, r.Intn(50))
		r.Read(body)
		p := right(seq, body)
		switch r.Intn(8) {
		case 0:
			p.length ^= 1 << r.Intn(32)
			p.headSum = crc32.ChecksumIEEE(p.head())
			p.sum = crc32.ChecksumIEEE(p.ahead())
		case 1:
			p.sum ^= 1 << r.Intn(32)
		}
		b = append(b, p.laid()...)
		seq += []uint64{1, 1, 1, 1, 1, 0, 2, 1<<64 - 1}[r.Intn(8)]
	}
	for range r.Intn(3) {
		if len(b) > 0 {
			b[r.Intn(len(b))] ^= byte(1 << r.Intn(8))
		}
	}
	return b[:len(b)-r.Intn(min(len(b), 40)+1)], first
}

func TestAgainstAPlainerOne(t *testing.T) { // P4.1, P4.2, P4.3
	r := rand.New(rand.NewSource(4))
	for range 20000 {
		b, first := someBytes(r)
		for at := -33; at <= len(b)+33; at++ {
			checkTake(t, b, at)
		}
		bodies, at, e := told(b, first)
		checkAll(t, b, first, bodies, at, e)
		if len(b)%32 != 0 {
			continue
		}
		seq, body := r.Uint64(), make([]byte, r.Intn(100))
		r.Read(body)
		want := append(bytes.Clone(b), right(seq, body).laid()...)
		if got, e := frame.Put(b, seq, body); e != api.OK || !bytes.Equal(got, want) {
			t.Fatalf("Put(%x, %d, %x): %x %v, not %x", b, seq, body, got, e, want)
		}
	}
}
