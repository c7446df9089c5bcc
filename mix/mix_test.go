package mix_test

import (
	"math"
	"math/big"
	"math/rand"
	"slices"
	"testing"

	"winepress/mix"
)

// wrong is how many weights no mixer has.
var wrong = []int{0, -1, -2, -8, 9, 10, 16, 256, 1 << 16, 1 << 32, 1<<32 + 1, math.MaxInt, math.MinInt}

// ones is bits that are not 0.
var ones = []int{1, 2, 3, -1, -2, 256, 1 << 32, math.MaxInt, math.MinInt}

// edges is chances at the ends, and beyond them.
var edges = []int{math.MinInt, -1 << 32, -65536, -1, 0, 1, 31, 32, 33, 32767, 32768, 32769, 65503, 65504, 65505, 65535, 65536, 65537, 1 << 17, 1<<32 + 5, math.MaxInt}

// plain is weights, by the document's words.
type plain []int

func plainOf(n int) plain {
	return slices.Repeat(plain{64}, n)
}

// held is the number within both that is nearest.
func held(n, low, high int) int {
	switch {
	case n < low:
		return low
	case n > high:
		return high
	}
	return n
}

// p is of numbers of any length: so it can't go beyond them.
func (w plain) p(l []int) int {
	if len(l) != len(w) {
		return 0
	}
	sum, all := new(big.Int), new(big.Int)
	for i, weight := range w {
		wide := big.NewInt(int64(weight))
		all.Add(all, wide)
		sum.Add(sum, wide.Mul(wide, big.NewInt(int64(held(l[i], 0, 65536)))))
	}
	return held(int(sum.Div(sum, all).Int64()), 32, 65504)
}

// seen tells, too, how many weights have changed.
func (w plain) seen(l []int, bit int) int {
	if len(l) != len(w) {
		return 0
	}
	target := 0
	if bit != 0 {
		target = 65536
	}
	then := slices.Clone(w)
	mixed := w.p(l) - target
	for i, p := range l {
		p = held(p, 0, 65536) - target
		if p*p < mixed*mixed {
			w[i] = held(w[i]+1, 1, 255)
		}
		if p*p > mixed*mixed {
			w[i] = held(w[i]-1, 1, 255)
		}
	}
	changed := 0
	for i := range w {
		if w[i] != then[i] {
			changed++
		}
	}
	return changed
}

// weighs asks for just these weights.
func weighs(t *testing.T, m *mix.Mixer, want ...int) {
	t.Helper()
	if got := m.Weights(); !slices.Equal(got, want) {
		t.Fatalf("Weights %v, not %v", got, want)
	}
}

// mixes asks for a chance.
func mixes(t *testing.T, m *mix.Mixer, l []int, want int) {
	t.Helper()
	if got := m.P(l); got != want {
		t.Fatalf("P of %v: %d, not %d, by %v", l, got, want, m.Weights())
	}
}

// of is a mixer of just these weights.
func of(t *testing.T, weights ...int) *mix.Mixer {
	t.Helper()
	n := len(weights)
	m := mix.New(n)
	for i, weight := range weights {
		pull(m, i, n, weight-64)
	}
	weighs(t, m, weights...)
	return m
}

// pull makes one weight more, or less, by so much, and leaves the others: they have just what is mixed.
func pull(m *mix.Mixer, i, n, by int) {
	l := slices.Repeat([]int{32}, n)
	l[i] = 0 // of which, with the others, no more than 32 is mixed, and 32 is held
	bit := 0
	if by < 0 {
		bit, by = 1, -by
	}
	for range by {
		m.Seen(l, bit)
	}
}

// thrown is chances of one kind.
func thrown(dice *rand.Rand, n int) []int {
	l := make([]int, n)
	kind, base := dice.Intn(5), dice.Intn(65537)
	for i := range l {
		switch kind {
		case 0:
			l[i] = edges[dice.Intn(len(edges))]
		case 1:
			l[i] = base
		case 2:
			l[i] = base + dice.Intn(5) - 2
		case 3:
			l[i] = dice.Intn(200000) - 70000
		default:
			l[i] = 32 + dice.Intn(65473)
		}
	}
	return l
}

func TestP24_1_New(t *testing.T) {
	for n := 1; n <= 8; n++ {
		m := mix.New(n)
		if m == nil {
			t.Fatal(n)
		}
		weighs(t, m, plainOf(n)...)
	}
}

func TestP24_1_NewOfWrong(t *testing.T) {
	for _, n := range wrong {
		if mix.New(n) != nil {
			t.Error(n)
		}
	}
}

func TestP24_1_WeightsAreNew(t *testing.T) {
	for n := 1; n <= 8; n++ {
		m := mix.New(n)
		w := m.Weights()
		for i := range w {
			w[i] = 255 - i
		}
		_ = append(w, 9, 9, 9)
		weighs(t, m, plainOf(n)...)
		w = m.Weights()
		m.Seen(slices.Repeat([]int{0}, n), 0)
		if !slices.Equal(w, plainOf(n)) {
			t.Error("what was handed out changes", w)
		}
		weighs(t, m, slices.Repeat([]int{65}, n)...)
	}
}

// Two mixers have nothing of each other.
func TestP24_1_TwoMixers(t *testing.T) {
	a, b := mix.New(2), mix.New(2)
	a.Seen([]int{0, 65536}, 1)
	weighs(t, a, 63, 65)
	weighs(t, b, 64, 64)
	weighs(t, mix.New(2), 64, 64)
}

func TestP24_2_Example(t *testing.T) {
	m := mix.New(2)
	mixes(t, m, []int{20000, 40000}, 30000)
	m.Seen([]int{20000, 40000}, 1)
	weighs(t, m, 63, 65)
	mixes(t, m, []int{20000, 40000}, 30156) // 156.25 more
}

// Numbers that are reckoned by hand: what is not whole is rounded down.
func TestP24_2_P(t *testing.T) {
	for _, c := range []struct {
		weights, l []int
		want       int
	}{
		{[]int{64}, []int{40000}, 40000},
		{[]int{64, 64}, []int{101, 102}, 101},
		{[]int{64, 64, 64}, []int{1000, 1000, 1001}, 1000},
		{[]int{64, 64, 64}, []int{1000, 1001, 1001}, 1000},
		{[]int{1, 255}, []int{0, 65536}, 65280},
		{[]int{255, 1}, []int{0, 65536}, 256},
		{[]int{1, 3}, []int{60000, 50000}, 52500},
		{[]int{1, 2, 4}, []int{40000, 50000, 60000}, 54285},
		{[]int{1, 1, 1, 1, 1, 1, 1, 255}, []int{0, 0, 0, 0, 0, 0, 0, 50000}, 48664},
		{[]int{255, 255, 255, 255, 255, 255, 255, 255}, []int{65536, 65536, 65536, 65536, 65536, 65536, 65536, 0}, 57344},
	} {
		mixes(t, of(t, c.weights...), c.l, c.want)
	}
}

// What is mixed is held; of one chance that is all there is to see.
func TestP24_2_Held(t *testing.T) {
	m := mix.New(1)
	for _, p := range edges {
		mixes(t, m, []int{p}, held(p, 32, 65504))
	}
	for n := 1; n <= 8; n++ {
		m := mix.New(n)
		for _, p := range edges {
			mixes(t, m, slices.Repeat([]int{p}, n), held(p, 32, 65504))
		}
	}
	mixes(t, mix.New(2), []int{0, 63}, 32)
	mixes(t, mix.New(2), []int{0, 66}, 33)
	mixes(t, mix.New(2), []int{65536, 65473}, 65504)
	mixes(t, mix.New(2), []int{65536, 65471}, 65503)
}

// Each chance is held from 0 to 65536 ahead of being weighed, not from 32.
func TestP24_2_EachHeld(t *testing.T) {
	for _, c := range []struct {
		l    []int
		want int
	}{
		{[]int{0, 1000}, 500}, {[]int{-1, 1000}, 500}, {[]int{-1000, 1000}, 500}, {[]int{math.MinInt, 1000}, 500}, {[]int{1000, -1 << 40}, 500},
		{[]int{32, 1000}, 516}, {[]int{31, 1001}, 516}, {[]int{1, 1001}, 501},
		{[]int{65536, 1000}, 33268}, {[]int{65537, 1000}, 33268}, {[]int{1 << 17, 1000}, 33268}, {[]int{math.MaxInt, 1000}, 33268}, {[]int{1000, 1 << 40}, 33268},
		{[]int{65504, 1000}, 33252}, {[]int{65534, 1000}, 33267},
		{[]int{math.MinInt, math.MaxInt}, 32768}, {[]int{math.MinInt, math.MinInt}, 32}, {[]int{math.MaxInt, math.MaxInt}, 65504},
	} {
		mixes(t, mix.New(2), c.l, c.want)
	}
}

// otherLengths is lists of which no mixer of n has a weight for each.
func otherLengths(n int) [][]int {
	l := [][]int{slices.Repeat([]int{40000}, 1000)}
	for other := range 20 {
		if other != n {
			l = append(l, slices.Repeat([]int{0}, other), slices.Repeat([]int{40000}, other), slices.Repeat([]int{math.MaxInt}, other))
		}
	}
	return append(l, nil)
}

func TestP24_2_AnotherLength(t *testing.T) {
	for n := 1; n <= 8; n++ {
		m := mix.New(n)
		for _, l := range otherLengths(n) {
			mixes(t, m, l, 0)
		}
		mixes(t, m, make([]int, n-1, 8), 0) // what lies in the room behind the end is none
	}
}

func TestP24_3_AnotherLength(t *testing.T) {
	for n := 1; n <= 8; n++ {
		m := mix.New(n)
		for _, l := range otherLengths(n) {
			m.Seen(l, 0)
			m.Seen(l, 1)
		}
		m.Seen(make([]int, n-1, 8), 0)
		weighs(t, m, plainOf(n)...)
	}
}

func TestP24_3_Seen(t *testing.T) {
	for _, c := range []struct {
		weights, l []int
		bit        int
		want       []int
	}{
		{[]int{64, 64}, []int{20000, 40000}, 0, []int{65, 63}},
		{[]int{64, 64}, []int{20000, 40000}, 1, []int{63, 65}},
		{[]int{64, 64}, []int{30000, 30000}, 0, []int{64, 64}},
		{[]int{64, 64}, []int{30000, 30000}, 1, []int{64, 64}},
		{[]int{64, 64}, []int{100, 101}, 0, []int{64, 63}}, // 100 is mixed: one is as near
		{[]int{64, 64}, []int{100, 101}, 1, []int{64, 65}},
		{[]int{64, 64, 64}, []int{10000, 20000, 30000}, 0, []int{65, 64, 63}},
		{[]int{64, 64, 64}, []int{10000, 20000, 30000}, 1, []int{63, 64, 65}},
		{[]int{64, 64, 64}, []int{0, 65536, 65536}, 0, []int{65, 63, 63}},
		{[]int{10, 20, 30}, []int{0, 65536, 65536}, 1, []int{9, 21, 31}},
		{[]int{255, 255}, []int{0, 65536}, 0, []int{255, 254}},
		{[]int{255, 255}, []int{0, 65536}, 1, []int{254, 255}},
		{[]int{1, 1}, []int{0, 65536}, 0, []int{2, 1}},
		{[]int{1, 1}, []int{0, 65536}, 1, []int{1, 2}},
		{[]int{1, 255}, []int{0, 65536}, 1, []int{1, 255}},
		{[]int{255, 1}, []int{0, 65536}, 0, []int{255, 1}},
		{[]int{254, 2}, []int{0, 65536}, 0, []int{255, 1}},
	} {
		m := of(t, c.weights...)
		m.Seen(c.l, c.bit)
		weighs(t, m, c.want...)
	}
}

// What is mixed is held, but the chances are not: so all of them may be nearer, or further away.
func TestP24_3_NearerThanWhatIsMixed(t *testing.T) {
	for n := 1; n <= 8; n++ {
		for _, c := range []struct{ p, bit, want int }{
			{0, 0, 65}, {31, 0, 65}, {32, 0, 64}, {33, 0, 64}, {32768, 0, 64}, {65504, 0, 64}, {65505, 0, 63}, {65536, 0, 63},
			{0, 1, 63}, {31, 1, 63}, {32, 1, 64}, {33, 1, 64}, {32768, 1, 64}, {65504, 1, 64}, {65505, 1, 65}, {65536, 1, 65},
			{-1, 0, 65}, {math.MinInt, 0, 65}, {math.MinInt, 1, 63}, {65537, 0, 63}, {math.MaxInt, 0, 63}, {math.MaxInt, 1, 65},
		} {
			m := mix.New(n)
			m.Seen(slices.Repeat([]int{c.p}, n), c.bit)
			weighs(t, m, slices.Repeat([]int{c.want}, n)...)
		}
	}
}

// Each chance is held ahead of being set against what is mixed: one beyond the whole is not further away than the whole.
func TestP24_3_EachHeld(t *testing.T) {
	for _, c := range []struct {
		l    []int
		bit  int
		want []int
	}{
		{[]int{1 << 40, 1000}, 1, []int{65, 63}},
		{[]int{1 << 40, 1000}, 0, []int{63, 65}},
		{[]int{-1 << 40, 1000}, 0, []int{65, 63}},
		{[]int{-1 << 40, 1000}, 1, []int{63, 65}},
		{[]int{math.MinInt, math.MaxInt}, 0, []int{65, 63}},
		{[]int{math.MinInt, math.MaxInt}, 1, []int{63, 65}},
	} {
		m := mix.New(2)
		m.Seen(c.l, c.bit)
		weighs(t, m, c.want...)
	}
}

// Whatever is not 0 is a bit 1.
func TestP24_3_NotNought(t *testing.T) {
	for _, bit := range ones {
		m := mix.New(2)
		m.Seen([]int{20000, 40000}, bit)
		weighs(t, m, 63, 65)
	}
}

// What is mixed is that of the weights ahead: none of them follows another one.
func TestP24_3_AllAtOnce(t *testing.T) {
	l := []int{0, 65536, 32767, 32768, 32769}
	m := mix.New(5)
	mixes(t, m, l, 32768)
	m.Seen(l, 1)
	weighs(t, m, 63, 65, 63, 64, 65)
	m = mix.New(5)
	m.Seen(l, 0)
	weighs(t, m, 65, 63, 65, 64, 63)
}

func TestP24_3_LikeThePlainOne(t *testing.T) {
	dice := rand.New(rand.NewSource(1))
	for n := 1; n <= 8; n++ {
		for range 20 {
			m, w := mix.New(n), plainOf(n)
			changed := 0
			for range 300 {
				l := thrown(dice, n)
				if dice.Intn(20) == 0 {
					l = thrown(dice, dice.Intn(12))
				}
				bit := dice.Intn(2)
				mixes(t, m, l, w.p(l))
				m.Seen(l, bit)
				changed += w.seen(l, bit)
				weighs(t, m, w...)
				mixes(t, m, l, w.p(l))
			}
			if changed == 0 {
				t.Error(n)
			}
		}
	}
}

// The one that is right each time comes to weigh 255, the others 1, and there they stay.
func TestP24_3_MostAndLeast(t *testing.T) {
	for n := 2; n <= 8; n++ {
		for i := range n {
			m := mix.New(n)
			l := slices.Repeat([]int{65536}, n)
			l[i] = 0
			for k := range 300 {
				want := slices.Repeat([]int{max(64-k, 1)}, n)
				want[i] = min(64+k, 255)
				weighs(t, m, want...)
				m.Seen(l, 0)
			}
			for k := range 300 {
				want := slices.Repeat([]int{min(1+k, 255)}, n)
				want[i] = max(255-k, 1)
				weighs(t, m, want...)
				m.Seen(l, 1)
			}
		}
	}
}

// To be asked changes nothing, and what is handed in stays as it is.
func TestP24_3_WhatIsHandedIn(t *testing.T) {
	dice := rand.New(rand.NewSource(2))
	for range 200 {
		n := 1 + dice.Intn(8)
		m := mix.New(n)
		room := append(thrown(dice, n), 7, 8, 9)
		l, then := room[:n], slices.Clone(room)
		p := m.P(l)
		m.Weights()
		mixes(t, m, l, p)
		weighs(t, m, plainOf(n)...)
		m.Seen(l, dice.Intn(2))
		if !slices.Equal(room, then) {
			t.Fatal("what is handed in is changed", room, then)
		}
		w := m.Weights()
		clear(room)
		weighs(t, m, w...)
	}
}

func TestP24_3_Nil(t *testing.T) {
	var m *mix.Mixer
	for n := range 10 {
		l := slices.Repeat([]int{40000}, n)
		m.Seen(l, 0)
		m.Seen(l, 1)
		mixes(t, m, l, 0)
	}
	m.Seen(nil, 1)
	mixes(t, m, nil, 0)
	if w := m.Weights(); len(w) != 0 {
		t.Error(w)
	}
}

// What no call made ends, at least.
func TestP24_3_NoneMade(t *testing.T) {
	m := &mix.Mixer{}
	for n := range 10 {
		l := slices.Repeat([]int{40000}, n)
		m.P(l)
		m.Seen(l, 0)
		m.Seen(l, 1)
	}
	m.P(nil)
	m.Seen(nil, 1)
	m.Weights()
}

func TestP24_4_Between(t *testing.T) {
	dice := rand.New(rand.NewSource(3))
	for range 200 {
		n := 1 + dice.Intn(8)
		m := mix.New(n)
		right := dice.Intn(2)
		for range 400 {
			l := thrown(dice, n)
			p := m.P(l)
			if p < held(slices.Min(l), 32, 65504) || p > held(slices.Max(l), 32, 65504) {
				t.Fatal(l, p, m.Weights())
			}
			bit := right
			if dice.Intn(8) == 0 {
				bit = 1 - right
			}
			l = thrown(dice, n)
			l[dice.Intn(min(n, 2))] = 65536 * right // the first ones are right far more often
			m.Seen(l, bit)
			for _, weight := range m.Weights() {
				if weight < 1 || weight > 255 {
					t.Fatal(m.Weights())
				}
			}
		}
	}
}
