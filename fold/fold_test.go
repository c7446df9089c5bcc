package fold_test

import (
	"math"
	"math/big"
	"math/rand"
	"slices"
	"testing"

	"winepress/fold"
	"winepress/word"
)

const most = math.MaxUint64

var widths = []int{1, 2, 4, 8}

// wrong is widths that are not right.
var wrong = []int{0, -1, -2, -4, -8, 3, 5, 6, 7, 9, 16, 32, 64, 256, 257, 1<<32 + 1, math.MaxInt, math.MinInt}

// pair is words, and what they are when they are folded.
type pair struct {
	width  int
	l, was []uint64
}

var pairs = []pair{
	{1, []uint64{0, 1, 255, 254}, []uint64{0, 2, 1, 3}},
	{1, []uint64{126, 127, 128, 129}, []uint64{252, 254, 255, 253}},
	{2, []uint64{0, 1, 255, 65535, 65534}, []uint64{0, 2, 510, 1, 3}},
	{2, []uint64{32766, 32767, 32768, 32769}, []uint64{65532, 65534, 65535, 65533}},
	{4, []uint64{0, 1, 1<<32 - 1, 1<<32 - 2}, []uint64{0, 2, 1, 3}},
	{4, []uint64{1<<31 - 1, 1 << 31, 1<<31 + 1}, []uint64{1<<32 - 2, 1<<32 - 1, 1<<32 - 3}},
	{8, []uint64{0, 1, most, most - 1}, []uint64{0, 2, 1, 3}},
	{8, []uint64{1<<63 - 1, 1 << 63, 1<<63 + 1}, []uint64{most - 1, most, most - 2}},
	{1, []uint64{7}, []uint64{14}},
	{8, []uint64{5, 5, 5}, []uint64{10, 10, 10}}, // each by itself
}

// folded is what the document says of Fold, by numbers that never wrap, of a word that fits.
func folded(v uint64, width int) uint64 {
	whole := new(big.Int).Lsh(big.NewInt(1), uint(8*width))
	n := new(big.Int).SetUint64(v)
	if n.Cmp(new(big.Int).Rsh(whole, 1)) < 0 {
		return n.Lsh(n, 1).Uint64()
	}
	n.Sub(new(big.Int).Sub(whole, big.NewInt(1)), n)
	return n.Lsh(n, 1).Add(n, big.NewInt(1)).Uint64()
}

// unfolded is what the document says of Unfold, of a word that fits.
func unfolded(u uint64, width int) uint64 {
	if u%2 == 0 {
		return u / 2
	}
	return word.Mask(width) - u/2
}

// edges is words at the ends of both halves.
func edges(width int) []uint64 {
	m := word.Mask(width)
	return []uint64{0, 1, 2, m/2 - 1, m / 2, m/2 + 1, m/2 + 2, m - 2, m - 1, m}
}

// words is edges, and others that are thrown.
func words(dice *rand.Rand, width, many int) []uint64 {
	l := edges(width)
	for range many {
		l = append(l, dice.Uint64()&word.Mask(width))
	}
	return l
}

func holds(t *testing.T, name string, got, want []uint64) {
	t.Helper()
	if !slices.Equal(got, want) {
		t.Errorf("%s: %v, not %v", name, got, want)
	}
}

func TestP6_1_Fold(t *testing.T) {
	for _, c := range pairs {
		holds(t, "Fold", fold.Fold(c.l, c.width), c.was)
	}
}

func TestP6_1_Unfold(t *testing.T) {
	for _, c := range pairs {
		holds(t, "Unfold", fold.Unfold(c.was, c.width), c.l)
	}
}

func TestP6_1_EachWord(t *testing.T) {
	dice := rand.New(rand.NewSource(1))
	for _, w := range widths {
		l := words(dice, w, 5000)
		up, back := fold.Fold(l, w), fold.Unfold(l, w)
		if len(up) != len(l) || len(back) != len(l) {
			t.Fatal(w, len(l), len(up), len(back))
		}
		for k, v := range l {
			if up[k] != folded(v, w) || back[k] != unfolded(v, w) {
				t.Fatal(w, v, up[k], back[k])
			}
		}
	}
}

// A word is a number of its width: what is above counts as little here as in layer 5.
func TestP6_1_WordsThatDontFit(t *testing.T) {
	holds(t, "Fold", fold.Fold([]uint64{256, 257, 511, 384, 383, most}, 1), []uint64{0, 2, 1, 255, 254, 1})
	holds(t, "Unfold", fold.Unfold([]uint64{256, 258, 257, 511, 510, most}, 1), []uint64{0, 1, 255, 128, 127, 128})
	dice := rand.New(rand.NewSource(2))
	for _, w := range widths {
		for range 2000 {
			v := dice.Uint64()
			fit := v & word.Mask(w)
			if got := fold.Fold([]uint64{v}, w); !slices.Equal(got, []uint64{folded(fit, w)}) {
				t.Fatal(w, v, got)
			}
			if got := fold.Unfold([]uint64{v}, w); !slices.Equal(got, []uint64{unfolded(fit, w)}) {
				t.Fatal(w, v, got)
			}
		}
	}
}

func TestP6_1_NoWords(t *testing.T) {
	for _, w := range widths {
		if len(fold.Fold(nil, w)) != 0 || len(fold.Fold([]uint64{}, w)) != 0 {
			t.Error("Fold", w)
		}
		if len(fold.Unfold(nil, w)) != 0 || len(fold.Unfold([]uint64{}, w)) != 0 {
			t.Error("Unfold", w)
		}
	}
}

func TestP6_1_WrongWidth(t *testing.T) {
	for _, w := range wrong {
		for _, l := range [][]uint64{nil, {0}, {1, 2, 3}} {
			if got := fold.Fold(l, w); len(got) != 0 {
				t.Error("Fold", w, got)
			}
			if got := fold.Unfold(l, w); len(got) != 0 {
				t.Error("Unfold", w, got)
			}
		}
	}
}

func TestP6_1_NewMemory(t *testing.T) {
	for _, do := range []func([]uint64, int) []uint64{fold.Fold, fold.Unfold} {
		for _, w := range widths {
			room := []uint64{300, 3, most, 4, 5}
			then := slices.Clone(room)
			got := do(room[:3], w)
			if !slices.Equal(room, then) {
				t.Error("what is handed in is changed", w, room)
			}
			want := slices.Clone(got)
			clear(room)
			if !slices.Equal(got, want) {
				t.Error("the answer is in the caller's memory", w, got)
			}
			copy(room, then)
			clear(got)
			_ = append(got, 99)
			if !slices.Equal(room, then) {
				t.Error("the caller's memory is in the answer", w, room)
			}
		}
	}
}

func TestP6_2_Back(t *testing.T) {
	dice := rand.New(rand.NewSource(3))
	for _, w := range widths {
		l := words(dice, w, 100000)
		if !slices.Equal(fold.Unfold(fold.Fold(l, w), w), l) {
			t.Error("Unfold of Fold", w)
		}
		if !slices.Equal(fold.Fold(fold.Unfold(l, w), w), l) {
			t.Error("Fold of Unfold", w)
		}
	}
}

func TestP6_2_EachWordOfTwoBytes(t *testing.T) {
	for _, w := range []int{1, 2} {
		all := make([]uint64, word.Mask(w)+1)
		for v := range all {
			all[v] = uint64(v)
		}
		up, back := fold.Fold(all, w), fold.Unfold(all, w)
		holds(t, "Unfold of Fold", fold.Unfold(up, w), all)
		holds(t, "Fold of Unfold", fold.Fold(back, w), all)
		slices.Sort(up)
		slices.Sort(back)
		holds(t, "no two words become one: Fold", up, all)
		holds(t, "no two words become one: Unfold", back, all)
	}
}

// round is how far a word is from 0, whichever way is the shorter one. (Of 0 of 8 bytes both are 0, as the longer one wraps.)
func round(v uint64, width int) uint64 {
	return min(v, (word.Mask(width)-v)+1)
}

func TestP6_3_TheNearerTheLess(t *testing.T) {
	dice := rand.New(rand.NewSource(4))
	for _, w := range widths {
		l := words(dice, w, 300)
		for k := range uint64(40) { // neighbours, too
			l = append(l, k, word.Mask(w)-k)
		}
		up := fold.Fold(l, w)
		for a := range l {
			for b := range l {
				if round(l[a], w) < round(l[b], w) && up[a] >= up[b] {
					t.Fatal(w, l[a], up[a], l[b], up[b])
				}
			}
		}
	}
}

func TestP6_3_InOrder(t *testing.T) {
	for _, w := range widths {
		l, want := []uint64{0}, []uint64{0}
		for k := range uint64(100) {
			l = append(l, word.Mask(w)-k, k+1) // -1, 1, -2, 2 ..
			want = append(want, 2*k+1, 2*k+2)
		}
		holds(t, "Fold", fold.Fold(l, w), want)
	}
}
