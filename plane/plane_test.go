package plane_test

import (
	"math"
	"math/rand"
	"slices"
	"testing"

	"winepress/plane"
)

var widths = []int{1, 2, 4, 8}

// wrong is widths that are not right.
var wrong = []int{0, -1, -2, -4, -8, 3, 5, 6, 7, 9, 16, 32, 64, 256, 257, 1<<32 + 1, math.MaxInt, math.MinInt}

// pair is bytes, and what they are when they are split.
type pair struct {
	width  int
	b, was []byte
}

var pairs = []pair{
	{2, []byte{1, 2, 3, 4, 5}, []byte{1, 3, 2, 4, 5}},
	{1, []byte{1, 2, 3, 4, 5}, []byte{1, 2, 3, 4, 5}},
	{2, []byte{1, 2, 3, 4, 5, 6}, []byte{1, 3, 5, 2, 4, 6}},
	{4, []byte{1, 2, 3, 4, 5, 6, 7, 8, 9, 10, 11}, []byte{1, 5, 2, 6, 3, 7, 4, 8, 9, 10, 11}},
	{4, []byte{1, 2, 3}, []byte{1, 2, 3}}, // no whole word
	{8, []byte{1, 2, 3, 4, 5, 6, 7, 8, 9}, []byte{1, 2, 3, 4, 5, 6, 7, 8, 9}},
	{8, []byte{1, 2, 3, 4, 5, 6, 7, 8, 9, 10, 11, 12, 13, 14, 15, 16, 17}, []byte{1, 9, 2, 10, 3, 11, 4, 12, 5, 13, 6, 14, 7, 15, 8, 16, 17}},
	{2, []byte{9}, []byte{9}},
}

// call is one of the calls that make bytes of bytes.
type call struct {
	name string
	do   func([]byte, int) []byte
}

var calls = []call{{"Split", plane.Split}, {"Join", plane.Join}}

// places is where the bytes of n go, as the document says: byte k of word i to k W + i.
func places(n, width int) []int {
	out := make([]int, n)
	for at := range out {
		out[at] = at
	}
	whole := n / width
	for i := range whole {
		for k := range width {
			out[width*i+k] = k*whole + i
		}
	}
	return out
}

func thrown(dice *rand.Rand, n int) []byte {
	b := make([]byte, n)
	dice.Read(b)
	return b
}

func holds(t *testing.T, name string, got, want []byte) {
	t.Helper()
	if !slices.Equal(got, want) {
		t.Errorf("%s: %v, not %v", name, got, want)
	}
}

func TestP8_1_Place(t *testing.T) {
	for _, w := range widths {
		for n := range 70 {
			for at, want := range places(n, w) {
				if got := plane.Place(n, w, at); got != want {
					t.Fatal(n, w, at, got, want)
				}
			}
		}
	}
}

func TestP8_1_NoPlace(t *testing.T) {
	for _, w := range widths {
		for _, c := range [][2]int{
			{0, 0}, {0, -1}, {0, 1}, {5, -1}, {5, 5}, {5, 6}, {5, math.MaxInt}, {5, math.MinInt},
			{-1, 0}, {-1, -1}, {-1, -2}, {-5, 3}, {-5, -7}, {math.MinInt, 0}, {math.MinInt, math.MinInt}, {math.MaxInt, math.MaxInt},
		} {
			if got := plane.Place(c[0], w, c[1]); got != -1 {
				t.Error(c[0], w, c[1], got)
			}
		}
	}
}

func TestP8_1_WrongWidth(t *testing.T) {
	for _, w := range wrong {
		for _, c := range [][2]int{{5, 0}, {5, 4}, {100, 99}, {0, 0}, {-1, 0}, {5, 9}} {
			if got := plane.Place(c[0], w, c[1]); got != -1 {
				t.Error(c[0], w, c[1], got)
			}
		}
	}
}

// However many bytes there are, nothing wraps.
func TestP8_1_Great(t *testing.T) {
	const n = math.MaxInt // 7 more than a multiple of 8
	for _, c := range []struct{ width, at, want int }{
		{1, n - 1, n - 1},
		{2, n - 1, n - 1},
		{2, n - 2, n - 2},
		{2, 1, n / 2},
		{2, n - 3, n/2 - 1},
		{4, n - 4, n - 4},
		{4, n - 3, n - 3},
		{8, 7, 7 * (n / 8)},
		{8, n - 8, n - 8},
		{8, n - 15, n/8 - 1},
	} {
		if got := plane.Place(n, c.width, c.at); got != c.want {
			t.Error(c.width, c.at, got, c.want)
		}
	}
}

func TestP8_2_Split(t *testing.T) {
	for _, c := range pairs {
		holds(t, "Split", plane.Split(c.b, c.width), c.was)
	}
}

func TestP8_2_Join(t *testing.T) {
	for _, c := range pairs {
		holds(t, "Join", plane.Join(c.was, c.width), c.b)
	}
}

func TestP8_2_EachAtItsPlace(t *testing.T) {
	dice := rand.New(rand.NewSource(1))
	for _, w := range widths {
		for n := range 100 {
			b := thrown(dice, n)
			apart, together := plane.Split(b, w), plane.Join(b, w)
			if len(apart) != n || len(together) != n {
				t.Fatal(w, n, len(apart), len(together))
			}
			for at, place := range places(n, w) {
				if apart[place] != b[at] || together[at] != b[place] || plane.Place(n, w, at) != place {
					t.Fatal(w, n, at, place)
				}
			}
		}
	}
}

func TestP8_2_NoBytes(t *testing.T) {
	for _, c := range calls {
		for _, w := range widths {
			if len(c.do(nil, w)) != 0 || len(c.do([]byte{}, w)) != 0 {
				t.Error(c.name, w)
			}
		}
	}
}

func TestP8_2_WrongWidth(t *testing.T) {
	for _, c := range calls {
		for _, w := range wrong {
			for _, b := range [][]byte{nil, {1}, {1, 2, 3, 4, 5, 6, 7, 8, 9}} {
				if got := c.do(b, w); len(got) != 0 {
					t.Error(c.name, w, got)
				}
			}
		}
	}
}

func TestP8_2_NewMemory(t *testing.T) {
	for _, c := range calls {
		for _, w := range widths {
			for _, n := range []int{3, 17} { // of the width 8 no byte of 3 goes anywhere
				room := thrown(rand.New(rand.NewSource(2)), n+5)
				then := slices.Clone(room)
				got := c.do(room[:n], w)
				if !slices.Equal(room, then) {
					t.Error("what is handed in is changed", c.name, w, room)
				}
				want := slices.Clone(got)
				clear(room)
				if !slices.Equal(got, want) {
					t.Error("the answer is in the caller's memory", c.name, w, got)
				}
				copy(room, then)
				clear(got)
				_ = append(got, 99)
				if !slices.Equal(room, then) {
					t.Error("the caller's memory is in the answer", c.name, w, room)
				}
			}
		}
	}
}

func TestP8_3_Back(t *testing.T) {
	dice := rand.New(rand.NewSource(3))
	for _, w := range widths {
		for n := range 300 {
			b := thrown(dice, n)
			holds(t, "Join of Split", plane.Join(plane.Split(b, w), w), b)
			holds(t, "Split of Join", plane.Split(plane.Join(b, w), w), b)
		}
	}
}

func TestP8_3_NoByteIsLost(t *testing.T) {
	for _, w := range widths {
		for n := range 256 { // each byte but once
			all := make([]byte, n)
			for k := range all {
				all[k] = byte(k)
			}
			for _, c := range calls {
				got := c.do(all, w)
				slices.Sort(got)
				holds(t, c.name, got, all)
			}
		}
	}
}

func TestP8_3_Large(t *testing.T) {
	b := thrown(rand.New(rand.NewSource(4)), 1<<20+7)
	for _, w := range widths {
		if !slices.Equal(plane.Join(plane.Split(b, w), w), b) || !slices.Equal(plane.Split(plane.Join(b, w), w), b) {
			t.Error(w)
		}
	}
}
