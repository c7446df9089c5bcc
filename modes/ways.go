package modes

import (
	"bytes"

	"winepress/api"
	"winepress/blend"
	"winepress/huff"
	"winepress/rans"
	"winepress/rice"
)

const (
	byteBits = 8
	letters  = 256
	lenBits  = 4 // bits of a letter's len
)

// way is one in which bytes are coded.
type way interface {
	code(b []byte, width int) []byte
	decode(payload []byte, width, n int) ([]byte, api.Errno)
}

// bounded is a way that knows of how many bytes the payload of n bytes is at least.
type bounded interface {
	least(width, n int) int
}

// allWays is the ways of the modes, each at its mode's place.
func allWays() [api.Huff + 1]way {
	return [...]way{
		api.Stored: asTheyAre{},
		api.Rice:   asWords{},
		api.Rans:   asLetters{rans.Code, rans.Decode},
		api.Adapt:  asLetters{blend.Adapt, blend.Adapted},
		api.Blend:  asLetters{blend.Code, blend.Decode},
		api.Huff:   asCodes{asLetters{huff.Code, huff.Decode}},
	}
}

// wayOf is the way of a mode; false, if there is none.
func wayOf(mode int) (way, bool) {
	ways := allWays()
	if mode < 0 || mode >= len(ways) {
		return nil, false
	}
	return ways[mode], true
}

// least is how many bytes a way's payload has at least, as far as the way knows.
func least(w way, width, n int) int {
	if known, ok := w.(bounded); ok {
		return known.least(width, n)
	}
	return 0
}

// filled is how many bytes so many bits fill.
func filled(bits int) int {
	return (bits + byteBits - 1) / byteBits
}

// asTheyAre leaves bytes as they are.
type asTheyAre struct{}

func (asTheyAre) code(b []byte, _ int) []byte {
	return bytes.Clone(b)
}

func (asTheyAre) decode(payload []byte, _, n int) ([]byte, api.Errno) {
	if len(payload) != n {
		return nil, api.ErrPayload
	}
	return bytes.Clone(payload), api.OK
}

func (asTheyAre) least(_, n int) int {
	return n
}

// asWords codes words that are mostly small.
type asWords struct{}

func (asWords) code(b []byte, width int) []byte {
	return rice.Code(b, width)
}

func (asWords) decode(payload []byte, width, n int) ([]byte, api.Errno) {
	return rice.Decode(payload, width, n)
}

// Each word has a bit at least, each byte that is left all of them.
func (asWords) least(width, n int) int {
	return filled(n/width + n%width*byteBits)
}

// asLetters codes letters, whatever words they are of.
type asLetters struct {
	lay  func(b []byte) []byte
	take func(payload []byte, n int) ([]byte, api.Errno)
}

func (l asLetters) code(b []byte, _ int) []byte {
	return l.lay(b)
}

func (l asLetters) decode(payload []byte, _, n int) ([]byte, api.Errno) {
	return l.take(payload, n)
}

// asCodes codes letters by codes whose lens stand ahead.
type asCodes struct {
	asLetters
}

// A bit tells of each of the 256 letters whether it is there; the one that is has a len, and each code a bit at least.
func (asCodes) least(_, n int) int {
	if n == 0 {
		return 0
	}
	return filled(letters + lenBits + n)
}
