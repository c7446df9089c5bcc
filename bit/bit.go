// Package bit is layer 1: numbers as bits.
package bit

import (
	"slices"

	"winepress/api"
)

const (
	byteBits = 8
	mostBits = 64  // bits of a number
	mostOnes = 256 // ones that are laid, or taken, at once
)

// Writer lays bits. The zero Writer has none.
type Writer struct {
	room []byte
	many int
}

// Put lays the lowest n bits of v, the lowest one first.
func (w *Writer) Put(v uint64, n int) api.Errno {
	if w == nil {
		return api.ErrNil
	}
	if n < 0 || n > mostBits {
		return api.ErrArg
	}
	for k := range n {
		w.lay(byte(v >> k & 1))
	}
	return api.OK
}

// Ones lays n ones, and a nought behind, if there are fewer than there may be.
func (w *Writer) Ones(n, most int) api.Errno {
	if w == nil {
		return api.ErrNil
	}
	if n < 0 || n > most || most > mostOnes {
		return api.ErrArg
	}
	for range n {
		w.lay(1)
	}
	if n < most {
		w.lay(0)
	}
	return api.OK
}

func (w *Writer) lay(one byte) {
	if w.many%byteBits == 0 {
		w.room = append(w.room, 0)
	}
	w.room[w.many/byteBits] |= one << (w.many % byteBits)
	w.many++
}

// Len is how many bits there are.
func (w *Writer) Len() int {
	if w == nil {
		return 0
	}
	return w.many
}

// Bytes is the bytes that have the bits, in new memory.
func (w *Writer) Bytes() []byte {
	if w == nil {
		return nil
	}
	return slices.Clone(w.room)
}

// Reader takes bits.
type Reader struct {
	room []byte
	at   int
	err  api.Errno
}

// Read is a reader ahead of the first bit of b, as b is now.
func Read(b []byte) *Reader {
	return &Reader{room: slices.Clone(b)}
}

// Get takes a number of n bits.
func (r *Reader) Get(n int) uint64 {
	if r.Err() != api.OK || !within(n, mostBits, api.ErrArg, r.keep) {
		return 0
	}
	if !within(n, r.Left(), api.ErrTruncated, r.keep) {
		return 0
	}
	var v uint64
	for k := range n {
		v |= uint64(r.next(k)) << k
	}
	r.at += n
	return v
}

// Ones takes ones, up to most, or up to a nought, which is taken, too.
func (r *Reader) Ones(most int) int {
	if r.Err() != api.OK || !within(most, mostOnes, api.ErrArg, r.keep) {
		return 0
	}
	left := r.Left()
	for n := range most {
		if !within(n+1, left, api.ErrTruncated, r.keep) {
			return 0
		}
		if r.next(n) == 0 {
			r.at += n + 1
			return n
		}
	}
	r.at += most
	return most
}

// within tells whether n is 0 to most; if not, the error is handed on to keep.
func within(n, most int, e api.Errno, keep func(api.Errno)) bool {
	if n >= 0 && n <= most {
		return true
	}
	keep(e)
	return false
}

// keep holds on to the first error only: a later one would hide what went wrong.
func (r *Reader) keep(e api.Errno) {
	if r.err == api.OK {
		r.err = e
	}
}

// next is the bit that is k behind the next one.
func (r *Reader) next(k int) byte {
	k += r.at
	return r.room[k/byteBits] >> (k % byteBits) & 1
}

// Err is the first error.
func (r *Reader) Err() api.Errno {
	if r == nil {
		return api.ErrNil
	}
	return r.err
}

// Left is how many bits are not taken; 0 behind an error.
func (r *Reader) Left() int {
	if r.Err() != api.OK {
		return 0
	}
	return len(r.room)*byteBits - r.at
}

// Done is the error, or whether more is left than noughts that fill up a byte.
func (r *Reader) Done() api.Errno {
	if e := r.Err(); e != api.OK {
		return e
	}
	left := r.Left()
	if left >= byteBits {
		return api.ErrMore
	}
	for k := range left {
		if r.next(k) == 1 {
			return api.ErrPayload
		}
	}
	return api.OK
}
