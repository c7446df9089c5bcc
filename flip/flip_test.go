package flip_test

import (
	"math"
	"math/rand"
	"slices"
	"strings"
	"testing"

	"winepress/flip"
	"winepress/word"
)

const most = math.MaxUint64

var widths = []int{1, 2, 4, 8}

// wrong is widths that are not right.
var wrong = []int{0, -1, -2, -4, -8, 3, 5, 6, 7, 9, 16, 32, 64, 256, 257, 1<<32 + 1, math.MaxInt, math.MinInt}

// pair is words, and what they are when they are flipped.
type pair struct {
	width  int
	l, was []uint64
}

var pairs = []pair{
	{1, []uint64{5, 7, 7}, []uint64{5, 2, 0}},
	{8, []uint64{5, 7, 7}, []uint64{5, 2, 0}},
	{1, []uint64{9}, []uint64{9}},
	{1, []uint64{0, 0, 0}, []uint64{0, 0, 0}},
	{1, []uint64{255, 0, 255, 128}, []uint64{255, 255, 255, 127}},
	{2, []uint64{0, 65535, 0x0F0F, 0xF0F0}, []uint64{0, 65535, 0xF0F0, 65535}},
	{4, []uint64{1 << 31, 1, 1<<32 - 1}, []uint64{1 << 31, 1<<31 + 1, 1<<32 - 2}},
	{8, []uint64{most, 1 << 63, 0}, []uint64{most, most >> 1, 1 << 63}},
}

// call is one of the calls that make words of words.
type call struct {
	name string
	do   func([]uint64, int) []uint64
}

var calls = []call{{"Flip", flip.Flip}, {"Back", flip.Back}}

// thrown is words of all 64 bits.
func thrown(dice *rand.Rand, most int) []uint64 {
	l := make([]uint64, dice.Intn(most+1))
	for k := range l {
		l[k] = dice.Uint64()
	}
	return l
}

// fitting is the words modulo Mask + 1 of the width.
func fitting(l []uint64, width int) []uint64 {
	out := slices.Clone(l)
	for k := range out {
		out[k] &= word.Mask(width)
	}
	return out
}

// digits is a word's bits in writing, the highest first, as many as the width has.
func digits(v uint64, width int) string {
	var s strings.Builder
	for k := 8*width - 1; k >= 0; k-- {
		s.WriteByte('0' + byte(v>>k&1))
	}
	return s.String()
}

// window is what the document says of Window, of the bits in writing.
func window(v uint64, width int) (int, int) {
	s := digits(v, width)
	if !strings.Contains(s, "1") {
		return 0, 0
	}
	return strings.Index(s, "1"), len(s) - 1 - strings.LastIndex(s, "1")
}

func holds(t *testing.T, name string, got, want []uint64) {
	t.Helper()
	if !slices.Equal(got, want) {
		t.Errorf("%s: %v, not %v", name, got, want)
	}
}

func TestP7_1_Flip(t *testing.T) {
	for _, c := range pairs {
		holds(t, "Flip", flip.Flip(c.l, c.width), c.was)
	}
}

func TestP7_1_Back(t *testing.T) {
	for _, c := range pairs {
		holds(t, "Back", flip.Back(c.was, c.width), c.l)
	}
}

// Each bit of a word is 1 just if it isn't as that of the one ahead.
func TestP7_1_EachBit(t *testing.T) {
	dice := rand.New(rand.NewSource(1))
	for range 200 {
		for _, w := range widths {
			l := thrown(dice, 20)
			got := flip.Flip(l, w)
			if len(got) != len(l) {
				t.Fatal(w, len(l), len(got))
			}
			ahead := digits(0, w)
			for k, v := range l {
				s, x := digits(v, w), digits(got[k], w)
				for i := range s {
					if (x[i] == '1') != (s[i] != ahead[i]) {
						t.Fatal(w, l, got)
					}
				}
				if got[k] > word.Mask(w) {
					t.Fatal(w, got[k])
				}
				ahead = s
			}
		}
	}
}

func TestP7_1_WordsThatDontFit(t *testing.T) {
	holds(t, "Flip", flip.Flip([]uint64{256, 257, 511, 5}, 1), []uint64{0, 1, 254, 250})
	holds(t, "Flip", flip.Flip([]uint64{1 << 40, most, 7}, 4), []uint64{0, 1<<32 - 1, 1<<32 - 8})
	holds(t, "Back", flip.Back([]uint64{256, 257, 510, 506}, 1), []uint64{0, 1, 255, 5})
	holds(t, "Back", flip.Back([]uint64{1 << 16, most, 7}, 2), []uint64{0, 65535, 65528})
	dice := rand.New(rand.NewSource(2))
	for range 200 {
		l := thrown(dice, 20)
		for _, w := range widths {
			for _, c := range calls {
				holds(t, c.name, c.do(l, w), c.do(fitting(l, w), w))
			}
		}
	}
}

func TestP7_1_NoWords(t *testing.T) {
	for _, c := range calls {
		for _, w := range widths {
			if len(c.do(nil, w)) != 0 || len(c.do([]uint64{}, w)) != 0 {
				t.Error(c.name, w)
			}
		}
	}
}

func TestP7_1_WrongWidth(t *testing.T) {
	for _, c := range calls {
		for _, w := range wrong {
			for _, l := range [][]uint64{nil, {0}, {1, 2, 3}} {
				if got := c.do(l, w); len(got) != 0 {
					t.Error(c.name, w, got)
				}
			}
		}
	}
}

func TestP7_1_NewMemory(t *testing.T) {
	for _, c := range calls {
		for _, w := range widths {
			room := []uint64{300, 3, most, 4, 5}
			then := slices.Clone(room)
			got := c.do(room[:3], w)
			if !slices.Equal(room, then) {
				t.Error("what is handed in is changed", c.name, w, room)
			}
			want := slices.Clone(got)
			clear(room)
			if !slices.Equal(got, want) {
				t.Error("the answer is in the caller's memory", c.name, w, got)
			}
			copy(room, then)
			clear(got)
			_ = append(got, 99)
			if !slices.Equal(room, then) {
				t.Error("the caller's memory is in the answer", c.name, w, room)
			}
		}
	}
}

// What a call answers doesn't hang on the calls ahead of it.
func TestP7_1_NothingIsKept(t *testing.T) {
	l := []uint64{5, 7, 6}
	for _, c := range calls {
		want := c.do(l, 1)
		c.do([]uint64{1, 200, 3000}, 2)
		holds(t, c.name, c.do(l, 1), want)
	}
}

func TestP7_2_Window(t *testing.T) {
	for _, c := range []struct {
		v            uint64
		width        int
		above, below int
	}{
		{40, 1, 2, 3},
		{40, 2, 10, 3},
		{40, 4, 26, 3},
		{40, 8, 58, 3},
		{1, 1, 7, 0},
		{128, 1, 0, 7},
		{255, 1, 0, 0},
		{129, 1, 0, 0},
		{1, 8, 63, 0},
		{1 << 63, 8, 0, 63},
		{most, 8, 0, 0},
		{1 << 31, 4, 0, 31},
		{1 << 15, 2, 0, 15},
	} {
		if above, below := flip.Window(c.v, c.width); above != c.above || below != c.below {
			t.Errorf("Window of %d by %d: %d, %d", c.v, c.width, above, below)
		}
	}
}

func TestP7_2_OfNought(t *testing.T) {
	for _, w := range widths {
		if above, below := flip.Window(0, w); above != 0 || below != 0 {
			t.Error(w, above, below)
		}
	}
}

func TestP7_2_WrongWidth(t *testing.T) {
	for _, w := range wrong {
		for _, v := range []uint64{0, 1, 40, 1 << 63, most} {
			if above, below := flip.Window(v, w); above != 0 || below != 0 {
				t.Error(v, w, above, below)
			}
		}
	}
}

// All are modulo Mask + 1: what is above the width's bits isn't seen.
func TestP7_2_WordsThatDontFit(t *testing.T) {
	for _, w := range []int{1, 2, 4} {
		above, below := flip.Window(word.Mask(w)+1, w)
		if above != 0 || below != 0 {
			t.Error(w, above, below)
		}
		above, below = flip.Window(word.Mask(w)+1+40, w)
		if above != 8*w-6 || below != 3 {
			t.Error(w, above, below)
		}
	}
}

func TestP7_2_WhateverWords(t *testing.T) {
	dice := rand.New(rand.NewSource(3))
	for _, w := range widths {
		for high := range 64 {
			for low := range high + 1 {
				v := dice.Uint64()&(most>>(63-high)) | 1<<high | 1<<low
				v = v >> low << low
				above, below := flip.Window(v, w)
				if a, b := window(v, w); a != above || b != below {
					t.Fatal(w, v, above, below)
				}
			}
		}
	}
}

func TestP7_3_Back(t *testing.T) {
	dice := rand.New(rand.NewSource(4))
	for range 500 {
		for _, w := range widths {
			l := fitting(thrown(dice, 40), w)
			holds(t, "Back of Flip", flip.Back(flip.Flip(l, w), w), l)
			holds(t, "Flip of Back", flip.Flip(flip.Back(l, w), w), l)
		}
	}
}

func TestP7_3_BackAtEdges(t *testing.T) {
	for _, w := range widths {
		m := word.Mask(w)
		edges := []uint64{0, 1, m/2 - 1, m / 2, m/2 + 1, m - 1, m}
		for _, a := range edges {
			for _, b := range edges {
				l := []uint64{a, b, a, a, b}
				holds(t, "Back of Flip", flip.Back(flip.Flip(l, w), w), l)
				holds(t, "Flip of Back", flip.Flip(flip.Back(l, w), w), l)
			}
		}
	}
}

func TestP7_3_Large(t *testing.T) {
	dice := rand.New(rand.NewSource(5))
	l := make([]uint64, 1<<20+1)
	for k := range l {
		l[k] = dice.Uint64()
	}
	for _, w := range widths {
		fit := fitting(l, w)
		if !slices.Equal(flip.Back(flip.Flip(fit, w), w), fit) {
			t.Error(w)
		}
	}
}
