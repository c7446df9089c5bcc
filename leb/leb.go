// Package leb is layer 2: numbers as few bytes.
package leb

import (
	"math/bits"

	"winepress/api"
)

const (
	part     = 7         // bits of a number that a byte has
	goesOn   = 1 << part // the bit of a byte that isn't the last one
	mostSize = 10        // bytes of a number
	mostTop  = 1         // the tenth byte has room for one bit of the 64
)

// Put lays a number behind bytes, in new memory.
func Put(b []byte, n uint64) []byte {
	out := make([]byte, len(b), len(b)+Size(n))
	copy(out, b)
	for n >= goesOn {
		out = append(out, byte(n)|goesOn)
		n >>= part
	}
	return append(out, byte(n))
}

// Size is how many bytes a number has.
func Size(n uint64) int {
	// 0 has no bits, but a byte.
	return max(1, (bits.Len64(n)+part-1)/part)
}

// Get is the number with which bytes begin, and how many bytes it has.
func Get(b []byte) (uint64, int, api.Errno) {
	var n uint64
	size := 0
number:
	for k, c := range b {
		switch {
		case k == mostSize-1 && c > mostTop:
			return 0, 0, api.ErrForm
		case c >= goesOn:
			n |= uint64(c-goesOn) << (part * k)
		case c == 0 && k > 0:
			return 0, 0, api.ErrForm
		default:
			n |= uint64(c) << (part * k)
			size = k + 1
			break number
		}
	}
	if size == 0 {
		return 0, 0, api.ErrTruncated
	}
	return n, size, api.OK
}

// Fold is a number without a sign: 2n of n from 0 on, -2n - 1 of others.
func Fold(n int) uint64 {
	if n < 0 {
		// -2n of the least int is no int; ^n, which is -n - 1, is one of every n below 0.
		return uint64(^n)<<1 | 1
	}
	return uint64(n) << 1
}

// Unfold is the number that was folded.
func Unfold(u uint64) int {
	n := int(u >> 1)
	if u&1 == 1 {
		return ^n
	}
	return n
}

// PutInt lays a number with a sign behind bytes, in new memory.
func PutInt(b []byte, n int) []byte {
	return Put(b, Fold(n))
}

// GetInt is the number with a sign with which bytes begin, and how many bytes it has.
func GetInt(b []byte) (int, int, api.Errno) {
	u, size, e := Get(b)
	return Unfold(u), size, e
}
