package word_test

import (
	"bytes"
	"encoding/binary"
	"math"
	"math/rand"
	"slices"
	"testing"

	"winepress/word"
)

var widths = []int{1, 2, 4, 8}

// wrong is widths that are not right.
var wrong = []int{0, -1, -2, -4, -8, 3, 5, 6, 7, 9, 12, 16, 32, 64, 256, 257, 258, 1<<32 + 1, 1<<32 + 8, math.MaxInt, math.MinInt, math.MinInt + 1}

func TestP4_1_Right(t *testing.T) {
	for _, w := range widths {
		if !word.Right(w) {
			t.Error(w)
		}
	}
	for _, w := range wrong {
		if word.Right(w) {
			t.Error(w)
		}
	}
	many := 0
	for w := -300; w < 300; w++ {
		if word.Right(w) {
			many++
		}
	}
	if many != 4 {
		t.Error(many)
	}
}

func TestP4_1_Mask(t *testing.T) {
	for k, want := range []uint64{255, 65535, 4294967295, 18446744073709551615} {
		if m := word.Mask(widths[k]); m != want {
			t.Error(widths[k], m)
		}
	}
	for _, w := range wrong {
		if m := word.Mask(w); m != 0 {
			t.Error(w, m)
		}
	}
}

func TestP4_2_Take(t *testing.T) {
	b := []byte{1, 2, 3, 4, 5, 6, 7, 8, 9, 10, 255}
	for _, c := range []struct {
		many, width int
		l           []uint64
		rest        []byte
	}{
		{3, 2, []uint64{513}, []byte{3}},
		{0, 1, nil, nil}, {0, 2, nil, nil}, {0, 4, nil, nil}, {0, 8, nil, nil},
		{1, 1, []uint64{1}, nil},
		{1, 2, nil, []byte{1}},
		{2, 2, []uint64{0x0201}, nil},
		{3, 4, nil, []byte{1, 2, 3}},
		{4, 4, []uint64{0x04030201}, nil},
		{7, 8, nil, []byte{1, 2, 3, 4, 5, 6, 7}},
		{8, 8, []uint64{0x0807060504030201}, nil},
		{11, 1, []uint64{1, 2, 3, 4, 5, 6, 7, 8, 9, 10, 255}, nil},
		{11, 2, []uint64{0x0201, 0x0403, 0x0605, 0x0807, 0x0a09}, []byte{255}},
		{11, 4, []uint64{0x04030201, 0x08070605}, []byte{9, 10, 255}},
		{11, 8, []uint64{0x0807060504030201}, []byte{9, 10, 255}},
	} {
		l, rest := word.Take(b[:c.many], c.width)
		if !slices.Equal(l, c.l) || !bytes.Equal(rest, c.rest) {
			t.Error(c.many, c.width, l, rest)
		}
	}
}

func TestP4_2_TakeEdges(t *testing.T) {
	for _, w := range widths {
		b := append(bytes.Repeat([]byte{255}, w), make([]byte, w)...)
		b = append(b, bytes.Repeat([]byte{0}, w-1)...)
		b = append(b, 128)
		l, rest := word.Take(b, w)
		if !slices.Equal(l, []uint64{word.Mask(w), 0, word.Mask(w)/2 + 1}) || len(rest) != 0 {
			t.Error(w, l, rest)
		}
	}
}

func TestP4_2_Lay(t *testing.T) {
	for _, c := range []struct {
		l     []uint64
		width int
		rest  []byte
		b     []byte
	}{
		{[]uint64{513}, 2, []byte{3}, []byte{1, 2, 3}},
		{nil, 1, nil, nil}, {nil, 8, nil, nil},
		{nil, 4, []byte{9, 8}, []byte{9, 8}},
		{[]uint64{7}, 1, nil, []byte{7}},
		{[]uint64{7}, 2, nil, []byte{7, 0}},
		{[]uint64{7}, 4, nil, []byte{7, 0, 0, 0}},
		{[]uint64{7}, 8, nil, []byte{7, 0, 0, 0, 0, 0, 0, 0}},
		{[]uint64{0x0807060504030201, 9}, 8, []byte{1}, []byte{1, 2, 3, 4, 5, 6, 7, 8, 9, 0, 0, 0, 0, 0, 0, 0, 1}},
		// more bytes of the rest than a word has
		{[]uint64{5}, 2, []byte{1, 2, 3, 4, 5}, []byte{5, 0, 1, 2, 3, 4, 5}},
	} {
		if b := word.Lay(c.l, c.width, c.rest); !bytes.Equal(b, c.b) {
			t.Error(c, b)
		}
	}
}

func TestP4_2_LayIsModulo(t *testing.T) {
	l := []uint64{256, 65536 + 1, 1<<32 + 2, math.MaxUint64, 0x8877665544332211}
	for _, w := range widths {
		cut := make([]uint64, len(l))
		for k, v := range l {
			cut[k] = v & word.Mask(w)
		}
		rest := bytes.Repeat([]byte{42}, w-1)
		b := word.Lay(l, w, rest)
		if len(b) != len(l)*w+len(rest) || !bytes.Equal(b, word.Lay(cut, w, rest)) {
			t.Error(w, b)
		}
		if got, left := word.Take(b, w); !slices.Equal(got, cut) || !bytes.Equal(left, rest) {
			t.Error(w, got, left)
		}
	}
	if b := word.Lay(l, 1, nil); !bytes.Equal(b, []byte{0, 1, 2, 255, 0x11}) {
		t.Error(b)
	}
}

func TestP4_2_WrongWidth(t *testing.T) {
	for _, w := range wrong {
		if l, rest := word.Take([]byte{1, 2, 3, 4, 5, 6, 7, 8, 9}, w); len(l) != 0 || len(rest) != 0 {
			t.Error(w, l, rest)
		}
		if l, rest := word.Take(nil, w); len(l) != 0 || len(rest) != 0 {
			t.Error(w, l, rest)
		}
		if b := word.Lay([]uint64{1, 2}, w, []byte{3}); len(b) != 0 {
			t.Error(w, b)
		}
		if b := word.Lay(nil, w, []byte{3}); len(b) != 0 {
			t.Error(w, b)
		}
	}
}

func TestP4_2_TakeIsNew(t *testing.T) {
	for _, w := range widths {
		room := []byte{1, 2, 3, 4, 5, 6, 7, 8, 9, 10, 11, 12, 13}
		whole := bytes.Clone(room)
		l, rest := word.Take(room[:11], w)
		if !bytes.Equal(room, whole) {
			t.Error("what is handed in is changed", w, room)
		}
		words, left := slices.Clone(l), bytes.Clone(rest)
		clear(room)
		if !slices.Equal(l, words) || !bytes.Equal(rest, left) {
			t.Error("the answer is in the caller's memory", w, l, rest)
		}
		rest = append(rest, 99)
		rest[0] = 98
		if !bytes.Equal(room, make([]byte, len(room))) {
			t.Error("the caller's memory is in the answer", w, room)
		}
	}
}

func TestP4_2_LayIsNew(t *testing.T) {
	for _, w := range widths {
		words, room := []uint64{1, 2, math.MaxUint64, 4}, []byte{1, 2, 3, 4, 5, 6, 7, 8, 9}
		wordsThen, roomThen := slices.Clone(words), bytes.Clone(room)
		for _, l := range [][]uint64{nil, words[:0], words[:3]} {
			b := word.Lay(l, w, room[:2])
			want := bytes.Clone(b)
			if !slices.Equal(words, wordsThen) || !bytes.Equal(room, roomThen) {
				t.Error("what is handed in is changed", w, words, room)
			}
			room[0], words[0] = 77, 77
			if !bytes.Equal(b, want) {
				t.Error("the answer is in the caller's memory", w, b)
			}
			room[0], words[0] = 1, 1
			clear(b)
			_ = append(b, 99)
			if !slices.Equal(words, wordsThen) || !bytes.Equal(room, roomThen) {
				t.Error("the caller's memory is in the answer", w, words, room)
			}
		}
	}
}

// word8 is the words of bytes as the library has them, of the width 8.
func word8(b []byte) []uint64 {
	var l []uint64
	for ; len(b) >= 8; b = b[8:] {
		l = append(l, binary.LittleEndian.Uint64(b))
	}
	return l
}

func TestP4_3_WhatWasTakenIsLaidAsItWas(t *testing.T) {
	dice := rand.New(rand.NewSource(1))
	for n := range 400 {
		b := make([]byte, n%67)
		dice.Read(b)
		for _, w := range widths {
			l, rest := word.Take(b, w)
			if len(l) != len(b)/w || len(rest) != len(b)%w {
				t.Fatal(w, len(b), len(l), len(rest))
			}
			if got := word.Lay(l, w, rest); !bytes.Equal(got, b) {
				t.Fatal(w, b, got)
			}
		}
		if l, _ := word.Take(b, 8); !slices.Equal(l, word8(b)) {
			t.Fatal(b, l)
		}
	}
}

func TestP4_3_WhatWasLaidIsTaken(t *testing.T) {
	dice := rand.New(rand.NewSource(2))
	for range 400 {
		for _, w := range widths {
			l, rest := make([]uint64, dice.Intn(20)), make([]byte, dice.Intn(w))
			dice.Read(rest)
			for k := range l {
				l[k] = dice.Uint64() & word.Mask(w)
			}
			got, left := word.Take(word.Lay(l, w, rest), w)
			if !slices.Equal(got, l) || !bytes.Equal(left, rest) {
				t.Fatal(w, l, rest, got, left)
			}
		}
	}
}

func TestP4_3_Large(t *testing.T) {
	b := make([]byte, 1<<20+5)
	rand.New(rand.NewSource(3)).Read(b)
	for _, w := range widths {
		l, rest := word.Take(b, w)
		if got := word.Lay(l, w, rest); !bytes.Equal(got, b) {
			t.Error(w)
		}
	}
}
