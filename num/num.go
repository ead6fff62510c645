// Package num is layer 1: see shared/doc/01-num.md.
package num

import "math/bits"

const (
	groupBits  = 7
	groupMask  = 1<<groupBits - 1
	moreFollow = 1 << groupBits

	// 64 bits fill nine groups and one bit of a tenth.
	mostBytes = 10
	mostTenth = 1

	crcStart = 1<<32 - 1
	crcTurn  = 0xEDB88320
)

// Put lays a number behind some bytes, in new memory.
func Put(b []byte, n uint64) []byte {
	return appendNumber(withRoom(b, size(n)), n)
}

// Take reads the number at a place: it, the place behind it, and whether one stands there.
func Take(b []byte, at int) (uint64, int, bool) {
	if at < 0 || at >= len(b) {
		return 0, 0, false
	}
	rest := b[at:]
	var n uint64
	for i := range min(len(rest), mostBytes) {
		x := rest[i]
		if i == mostBytes-1 && x > mostTenth {
			return 0, 0, false
		}
		n |= uint64(x&groupMask) << (groupBits * i)
		if x >= moreFollow {
			continue
		}
		// A last group of noughts behind others says nothing: the least form has none.
		if x == 0 && i > 0 {
			return 0, 0, false
		}
		return n, at + i + 1, true
	}
	return 0, 0, false
}

// PutText lays a text, its length ahead, behind some bytes, in new memory.
func PutText(b []byte, s string) []byte {
	n := uint64(len(s))
	out := appendNumber(withRoom(b, size(n)+len(s)), n)
	return append(out, s...)
}

// TakeText reads the text of at most so many bytes at a place: it, the place behind it, and whether one stands there.
func TakeText(b []byte, at, most int) (string, int, bool) {
	n, from, ok := Take(b, at)
	if !ok || most < 0 || n > uint64(most) {
		return "", 0, false
	}
	// Held against what is left, not added to the place: a sum could wrap round.
	if n > uint64(len(b)-from) {
		return "", 0, false
	}
	to := from + int(n)
	return string(b[from:to]), to, true
}

// Crc is the sum CRC-32 of bytes, one part behind the other.
func Crc(parts ...[]byte) uint32 {
	c := uint32(crcStart)
	for _, part := range parts {
		for _, x := range part {
			c = crcByte(c, x)
		}
	}
	return c ^ crcStart
}

func crcByte(c uint32, x byte) uint32 {
	c ^= uint32(x)
	for range 8 {
		fell := c & 1
		c >>= 1
		if fell == 1 {
			c ^= crcTurn
		}
	}
	return c
}

// size is how many bytes a number takes; 0 takes one, too.
func size(n uint64) int {
	return (bits.Len64(n|1) + groupBits - 1) / groupBits
}

// withRoom copies bytes, so that what is laid behind them does not fall into the caller's spare room.
func withRoom(b []byte, room int) []byte {
	out := make([]byte, len(b), len(b)+room)
	copy(out, b)
	return out
}

func appendNumber(b []byte, n uint64) []byte {
	for n > groupMask {
		b = append(b, byte(n)|moreFollow)
		n >>= groupBits
	}
	return append(b, byte(n))
}
