package delta_test

import (
	"math"
	"math/big"
	"math/rand"
	"slices"
	"testing"

	"winepress/delta"
	"winepress/word"
)

var widths = []int{1, 2, 4, 8}

// wrong is widths that are not right.
var wrong = []int{0, -1, -2, -4, -8, 3, 5, 6, 7, 9, 16, 32, 64, 256, 257, 1<<32 + 1, math.MaxInt, math.MinInt}

// call is one of the package's calls.
type call struct {
	name string
	do   func([]uint64, int) []uint64
}

var calls = []call{{"Diff", delta.Diff}, {"Sum", delta.Sum}, {"Second", delta.Second}, {"Twice", delta.Twice}}

// thrown is words of all 64 bits.
func thrown(dice *rand.Rand, most int) []uint64 {
	l := make([]uint64, dice.Intn(most+1))
	for k := range l {
		l[k] = dice.Uint64()
	}
	return l
}

// fitting is the words modulo Mask + 1 of the width.
func fitting(l []uint64, width int) []uint64 {
	out := slices.Clone(l)
	for k := range out {
		out[k] &= word.Mask(width)
	}
	return out
}

// modulo is the word that a number of any size and sign is, of the width.
func modulo(n *big.Int, width int) uint64 {
	return new(big.Int).Mod(n, new(big.Int).Lsh(big.NewInt(1), uint(8*width))).Uint64()
}

func number(v uint64) *big.Int {
	return new(big.Int).SetUint64(v)
}

// diffs is what the document says of Diff, by numbers that never wrap.
func diffs(l []uint64, width int) []uint64 {
	var out []uint64
	ahead := number(0)
	for _, v := range l {
		out = append(out, modulo(new(big.Int).Sub(number(v), ahead), width))
		ahead = number(v)
	}
	return out
}

// sums is what the document says of Sum, by numbers that never wrap.
func sums(l []uint64, width int) []uint64 {
	var out []uint64
	for k := range l {
		all := number(0)
		for _, v := range l[:k+1] {
			all.Add(all, number(v))
		}
		out = append(out, modulo(all, width))
	}
	return out
}

// holds asks a call for just these words.
func holds(t *testing.T, name string, got, want []uint64) {
	t.Helper()
	if !slices.Equal(got, want) {
		t.Errorf("%s: %v, not %v", name, got, want)
	}
}

func TestP5_1_Diff(t *testing.T) {
	const most = math.MaxUint64
	for _, c := range []struct {
		width   int
		l, want []uint64
	}{
		{1, []uint64{5, 7, 6}, []uint64{5, 2, 255}},
		{2, []uint64{5, 7, 6}, []uint64{5, 2, 65535}},
		{4, []uint64{5, 7, 6}, []uint64{5, 2, 1<<32 - 1}},
		{8, []uint64{5, 7, 6}, []uint64{5, 2, most}},
		{1, []uint64{9}, []uint64{9}},
		{1, []uint64{0, 0, 0}, []uint64{0, 0, 0}},
		{1, []uint64{255, 0, 255, 128, 0}, []uint64{255, 1, 255, 129, 128}},
		{8, []uint64{most, 0, most, 1 << 63, 0}, []uint64{most, 1, most, 1<<63 + 1, 1 << 63}},
		{1, []uint64{256, 258, 511, 3}, []uint64{0, 2, 253, 4}}, // words that don't fit
		{4, []uint64{1 << 32, most, 7}, []uint64{0, 1<<32 - 1, 8}},
	} {
		holds(t, "Diff", delta.Diff(c.l, c.width), c.want)
	}
}

func TestP5_1_Sum(t *testing.T) {
	const most = math.MaxUint64
	for _, c := range []struct {
		width   int
		l, want []uint64
	}{
		{1, []uint64{5, 2, 255}, []uint64{5, 7, 6}},
		{2, []uint64{5, 2, 255}, []uint64{5, 7, 262}},
		{1, []uint64{9}, []uint64{9}},
		{1, []uint64{0, 0, 0}, []uint64{0, 0, 0}},
		{1, []uint64{255, 1, 255, 129, 128}, []uint64{255, 0, 255, 128, 0}},
		{2, []uint64{40000, 40000, 40000}, []uint64{40000, 14464, 54464}},
		{4, []uint64{1<<32 - 1, 1, 1}, []uint64{1<<32 - 1, 0, 1}},
		{8, []uint64{most, 1, most, 5}, []uint64{most, 0, most, 4}},
		{1, []uint64{256, 257, 513}, []uint64{0, 1, 2}}, // words that don't fit
		{2, []uint64{1 << 16, most, 7}, []uint64{0, 65535, 6}},
	} {
		holds(t, "Sum", delta.Sum(c.l, c.width), c.want)
	}
}

func TestP5_1_Second(t *testing.T) {
	for _, c := range []struct {
		width   int
		l, want []uint64
	}{
		{1, []uint64{5, 7, 6}, []uint64{5, 253, 253}},
		{2, []uint64{5, 7, 6}, []uint64{5, 65533, 65533}},
		{8, []uint64{10, 13, 17, 22}, []uint64{10, math.MaxUint64 - 6, 1, 1}},
		{4, []uint64{9}, []uint64{9}},
		{1, []uint64{261, 519, 6}, []uint64{5, 253, 253}}, // words that don't fit
	} {
		holds(t, "Second", delta.Second(c.l, c.width), c.want)
	}
}

func TestP5_1_Twice(t *testing.T) {
	for _, c := range []struct {
		width   int
		l, want []uint64
	}{
		{1, []uint64{5, 253, 253}, []uint64{5, 7, 6}},
		{2, []uint64{1, 0, 0, 0}, []uint64{1, 2, 3, 4}},
		{8, []uint64{10, math.MaxUint64 - 6, 1, 1}, []uint64{10, 13, 17, 22}},
		{4, []uint64{9}, []uint64{9}},
		{1, []uint64{261, 509, 253}, []uint64{5, 7, 6}}, // words that don't fit
	} {
		holds(t, "Twice", delta.Twice(c.l, c.width), c.want)
	}
}

func TestP5_1_WhateverWords(t *testing.T) {
	dice := rand.New(rand.NewSource(1))
	for range 200 {
		l := thrown(dice, 30)
		for _, w := range widths {
			holds(t, "Diff", delta.Diff(l, w), diffs(l, w))
			holds(t, "Sum", delta.Sum(l, w), sums(l, w))
			holds(t, "Second", delta.Second(l, w), diffs(diffs(l, w), w))
			holds(t, "Twice", delta.Twice(l, w), sums(sums(l, w), w))
		}
	}
}

func TestP5_1_NoWords(t *testing.T) {
	for _, c := range calls {
		for _, w := range widths {
			if len(c.do(nil, w)) != 0 || len(c.do([]uint64{}, w)) != 0 {
				t.Error(c.name, w)
			}
		}
	}
}

func TestP5_1_WrongWidth(t *testing.T) {
	for _, c := range calls {
		for _, w := range wrong {
			if got := c.do([]uint64{1, 2, 3}, w); len(got) != 0 {
				t.Error(c.name, w, got)
			}
			if got := c.do(nil, w); len(got) != 0 {
				t.Error(c.name, w, got)
			}
		}
	}
}

func TestP5_1_NewMemory(t *testing.T) {
	for _, c := range calls {
		for _, w := range widths {
			room := []uint64{300, 2, math.MaxUint64, 4, 5}
			then := slices.Clone(room)
			got := c.do(room[:3], w)
			if !slices.Equal(room, then) {
				t.Error("what is handed in is changed", c.name, w, room)
			}
			want := slices.Clone(got)
			clear(room)
			if !slices.Equal(got, want) {
				t.Error("the answer is in the caller's memory", c.name, w, got)
			}
			copy(room, then)
			clear(got)
			_ = append(got, 99)
			if !slices.Equal(room, then) {
				t.Error("the caller's memory is in the answer", c.name, w, room)
			}
		}
	}
}

// What a call answers doesn't hang on the calls ahead of it.
func TestP5_1_NothingIsKept(t *testing.T) {
	l := []uint64{5, 7, 6}
	for _, c := range calls {
		want := c.do(l, 1)
		c.do([]uint64{1, 200, 3000}, 2)
		holds(t, c.name, c.do(l, 1), want)
	}
}

func TestP5_2_Back(t *testing.T) {
	dice := rand.New(rand.NewSource(2))
	for range 500 {
		for _, w := range widths {
			l := fitting(thrown(dice, 40), w)
			holds(t, "Sum of Diff", delta.Sum(delta.Diff(l, w), w), l)
			holds(t, "Diff of Sum", delta.Diff(delta.Sum(l, w), w), l)
			holds(t, "Twice of Second", delta.Twice(delta.Second(l, w), w), l)
			holds(t, "Second of Twice", delta.Second(delta.Twice(l, w), w), l)
		}
	}
}

func TestP5_2_BackAtEdges(t *testing.T) {
	for _, w := range widths {
		m := word.Mask(w)
		edges := []uint64{0, 1, m/2 - 1, m / 2, m/2 + 1, m - 1, m}
		for _, a := range edges {
			for _, b := range edges {
				l := []uint64{a, b, a, a, b}
				holds(t, "Sum of Diff", delta.Sum(delta.Diff(l, w), w), l)
				holds(t, "Diff of Sum", delta.Diff(delta.Sum(l, w), w), l)
				holds(t, "Twice of Second", delta.Twice(delta.Second(l, w), w), l)
				holds(t, "Second of Twice", delta.Second(delta.Twice(l, w), w), l)
			}
		}
	}
}

// Words that don't fit come back as those that they are modulo Mask + 1.
func TestP5_2_WordsThatDontFit(t *testing.T) {
	dice := rand.New(rand.NewSource(3))
	for range 200 {
		l := thrown(dice, 40)
		for _, w := range widths {
			holds(t, "Sum of Diff", delta.Sum(delta.Diff(l, w), w), fitting(l, w))
			holds(t, "Twice of Second", delta.Twice(delta.Second(l, w), w), fitting(l, w))
		}
	}
}

func TestP5_2_Large(t *testing.T) {
	l := make([]uint64, 1<<20+1)
	dice := rand.New(rand.NewSource(4))
	for k := range l {
		l[k] = dice.Uint64()
	}
	for _, w := range widths {
		fit := fitting(l, w)
		if !slices.Equal(delta.Sum(delta.Diff(fit, w), w), fit) || !slices.Equal(delta.Twice(delta.Second(fit, w), w), fit) {
			t.Error(w)
		}
	}
}

func TestP5_3_GrowsByTheSame(t *testing.T) {
	dice := rand.New(rand.NewSource(5))
	for range 300 {
		for _, w := range widths {
			first, step := dice.Uint64(), dice.Uint64()
			l := make([]uint64, 2+dice.Intn(50))
			for k := range l {
				l[k] = (first + step*uint64(k)) & word.Mask(w) // it may go round
			}
			second := delta.Second(l, w)
			if len(second) != len(l) || second[0] != l[0] || second[1] != (l[1]-2*l[0])&word.Mask(w) {
				t.Fatal(w, l, second)
			}
			if slices.ContainsFunc(second[2:], func(v uint64) bool { return v != 0 }) {
				t.Fatal(w, l, second)
			}
		}
	}
}
