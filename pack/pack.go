// Package pack is layer 1: numbers and texts as bytes, and texts of bytes held against each other (shared/doc/01-pack.md).
package pack

import (
	"bytes"
	"math/bits"

	"incipit/api"
)

// longestText is the greatest length that a text's one byte of length can say.
const longestText = 255

// U16 answers b, and behind it v in two bytes, the highest one first.
func U16(b []byte, v uint16) []byte { return putNumber(b, uint64(v), 2) }

// U32 answers b, and behind it v in four bytes, the highest one first.
func U32(b []byte, v uint32) []byte { return putNumber(b, uint64(v), 4) }

// U64 answers b, and behind it v in eight bytes, the highest one first.
func U64(b []byte, v uint64) []byte { return putNumber(b, v, 8) }

// Var answers b, and behind it v as a short number.
func Var(b []byte, v uint32) []byte {
	out := copyWithRoom(b, Size(v))
	at := len(b)
	for v > 127 {
		out[at] = byte(v) | 128
		v >>= 7
		at++
	}
	out[at] = byte(v)
	return out
}

// Text answers b, and behind it t with its length ahead; ErrLong, if t's length has no room in a byte.
func Text(b, t []byte) ([]byte, api.Errno) {
	if len(t) > longestText {
		return nil, api.ErrLong
	}
	out := copyWithRoom(b, 1+len(t))
	out[len(b)] = byte(len(t))
	copy(out[len(b)+1:], t)
	return out, api.OK
}

// Size answers how many bytes v has as a short number.
func Size(v uint32) int {
	// 0 has no bit set, and one byte all the same.
	return (bits.Len32(v|1) + 6) / 7
}

// Compare answers -1, if a stands ahead of b, 1, if b stands ahead of a, else 0.
func Compare(a, b []byte) int { return bytes.Compare(a, b) }

// Prefix answers how many bytes a and b both begin with.
func Prefix(a, b []byte) int {
	n := 0
	for n < len(a) && n < len(b) && a[n] == b[n] {
		n++
	}
	return n
}

// After answers the least text that stands behind each one that begins with b; false, if there is none.
func After(b []byte) ([]byte, bool) {
	// A byte 255 at the end has none above it: the byte ahead of it must grow instead.
	n := len(b)
	for n > 0 && b[n-1] == 255 {
		n--
	}
	if n == 0 {
		return nil, false
	}
	out := copyWithRoom(b[:n], 0)
	out[n-1]++
	return out, true
}

func putNumber(b []byte, v uint64, width int) []byte {
	out := copyWithRoom(b, width)
	for i := len(out) - 1; i >= len(b); i-- {
		out[i] = byte(v)
		v >>= 8
	}
	return out
}

// copyWithRoom makes new memory even where b has room behind it: that room is b's owner's.
func copyWithRoom(b []byte, room int) []byte {
	out := make([]byte, len(b)+room)
	copy(out, b)
	return out
}
