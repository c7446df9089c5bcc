package canon_test

import (
	"math"
	"math/rand"
	"slices"
	"strings"
	"testing"

	"winepress/api"
	"winepress/canon"
	"winepress/lens"
)

const (
	mostLetters = 4096
	mostBits    = 15
)

// wrongLens is what no len is.
var wrongLens = []int{-1, -2, 16, 17, 31, 32, 63, 64, 1<<32 + 1, math.MaxInt, math.MinInt}

// none is what is no letter, nor any code, whatever the lens.
var none = []int{-1, -2, -mostLetters, 1 << 16, 1 << 32, 1<<32 + 1, math.MaxInt, math.MinInt}

// pair is lens, and of each letter its code's bits ("" of one that has none).
type pair struct {
	lens  []int
	codes []string
}

var pairs = []pair{
	{[]int{1, 0, 2, 2}, []string{"0", "", "10", "11"}},
	{[]int{1}, []string{"0"}},
	{[]int{0, 1}, []string{"", "0"}},
	{[]int{0, 0, 1, 0}, []string{"", "", "0", ""}},
	{[]int{1, 1}, []string{"0", "1"}},
	{[]int{1, 0, 0, 1}, []string{"0", "", "", "1"}},
	{[]int{2, 2, 1}, []string{"10", "11", "0"}},
	{[]int{2, 1, 2}, []string{"10", "0", "11"}},
	{[]int{2, 2, 2, 2}, []string{"00", "01", "10", "11"}},
	{[]int{3, 3, 2, 2, 2}, []string{"110", "111", "00", "01", "10"}},
	{[]int{2, 3, 3, 2, 2}, []string{"00", "110", "111", "01", "10"}},
	{[]int{4, 1, 4, 2, 0, 3}, []string{"1110", "0", "1111", "10", "", "110"}},
	{[]int{1, 4, 4, 4, 4, 4, 4, 4, 4}, []string{"0", "1000", "1001", "1010", "1011", "1100", "1101", "1110", "1111"}},
	{[]int{4, 4, 4, 4, 4, 4, 4, 4, 1}, []string{"1000", "1001", "1010", "1011", "1100", "1101", "1110", "1111", "0"}},
	{[]int{3, 3, 3, 3, 3, 3, 2}, []string{"010", "011", "100", "101", "110", "111", "00"}},
	{[]int{1, 2, 3, 4, 5, 6, 7, 8, 9, 10, 11, 12, 13, 14, 15, 15}, []string{"0", "10", "110", "1110", "11110", "111110", "1111110", "11111110", "111111110", "1111111110", "11111111110", "111111111110", "1111111111110", "11111111111110", "111111111111110", "111111111111111"}},
}

// notWhole is lens that may be each, but are not whole.
var notWhole = [][]int{
	nil, {}, {0}, {0, 0, 0}, // no letter
	{2}, {3}, {15}, {0, 2}, {0, 15, 0}, // just one, but not of 1
	{1, 2}, {2, 2}, {2, 2, 2}, {1, 3, 3}, {15, 15}, {1, 2, 3, 4, 5, 6, 7, 8, 9, 10, 11, 12, 13, 14, 15}, // too little
	{1, 1, 1}, {1, 1, 15}, {1, 2, 2, 2}, {2, 2, 2, 2, 2}, {1, 2, 3, 4, 5, 6, 7, 8, 9, 10, 11, 12, 13, 14, 15, 15, 15}, // too much
	{1, 1, 1, 1}, {1, 1, 1, 1, 1, 1, 1, 1}, // as much several times over
}

// value is the number of bits, the highest first.
func value(bits string) int {
	v := 0
	for _, c := range bits {
		v = 2*v + int(c-'0')
	}
	return v
}

// number is a number's lowest n bits, the highest first.
func number(v, n int) string {
	var s strings.Builder
	for k := n - 1; k >= 0; k-- {
		s.WriteByte(byte('0' + v>>k&1))
	}
	return s.String()
}

// plainly is each letter's code by the document's words: by all lens from 1 on the letters in order.
func plainly(lens []int) []string {
	codes, code, ahead := make([]string, len(lens)), 0, -1
	for size := 1; size <= mostBits; size++ {
		for i, l := range lens {
			if l != size {
				continue
			}
			if ahead >= 0 {
				code++
				for range size - ahead {
					code *= 2
				}
			}
			codes[i], ahead = number(code, size), size
		}
	}
	return codes
}

// made asks for codes.
func made(t *testing.T, lens []int) *canon.Codes {
	t.Helper()
	c, e := canon.Make(lens)
	if e != api.OK || c == nil {
		t.Fatalf("Make of %d lens %v: %d", len(lens), lens[:min(len(lens), 40)], e)
	}
	return c
}

// refused asks for an error, and nothing.
func refused(t *testing.T, lens []int, want api.Errno) {
	t.Helper()
	if c, e := canon.Make(lens); e != want || c != nil {
		t.Errorf("Make of %d lens %v: %d, not %d", len(lens), lens[:min(len(lens), 40)], e, want)
	}
}

// of asks for just this code of a letter, and for the letter of that.
func of(t *testing.T, c *canon.Codes, i int, bits string) {
	t.Helper()
	if v, n := c.Of(i); v != value(bits) || n != len(bits) {
		t.Errorf("Of %d: %d, %d, not %q", i, v, n, bits)
	}
	if bits == "" {
		return
	}
	if got, ok := c.Letter(value(bits), len(bits)); got != i || !ok {
		t.Errorf("Letter of %q: %d, %v, not %d", bits, got, ok, i)
	}
}

// no asks that a letter has no code.
func no(t *testing.T, c *canon.Codes, i int) {
	t.Helper()
	if v, n := c.Of(i); v != 0 || n != 0 {
		t.Errorf("Of %d: %d, %d", i, v, n)
	}
}

// nobody asks that a code is no letter's.
func nobody(t *testing.T, c *canon.Codes, code, n int) {
	t.Helper()
	if i, ok := c.Letter(code, n); i != 0 || ok {
		t.Errorf("Letter of %d, %d: %d, %v", code, n, i, ok)
	}
}

// coded asks for just these codes, and for no others.
func coded(t *testing.T, lens []int, codes []string) {
	t.Helper()
	c, known := made(t, lens), map[string]bool{}
	for i, bits := range codes {
		of(t, c, i, bits)
		known[bits] = true
	}
	for n := range 8 {
		for code := range 1 << n {
			if bits := number(code, n); n == 0 || !known[bits] {
				nobody(t, c, code, n)
			}
		}
	}
	for _, i := range append(none, len(lens), len(lens)+1) {
		no(t, c, i)
	}
	strange(t, c)
}

// strange asks that codes that are none, whatever the lens, are no letter's.
func strange(t *testing.T, c *canon.Codes) {
	t.Helper()
	for _, v := range none {
		for n := range 18 {
			nobody(t, c, v, n)
		}
		for code := range 4 {
			nobody(t, c, code, v)
		}
		nobody(t, c, v, v)
	}
	for n := range 18 {
		nobody(t, c, 1<<n, n)
		nobody(t, c, 1<<n+1, n)
		nobody(t, c, n, 0)
		nobody(t, c, n, 16)
		nobody(t, c, n, 64)
	}
}

// there is how many letters have a len.
func there(lens []int) int {
	many := 0
	for _, size := range lens {
		many += min(size, 1)
	}
	return many
}

// thrown is whole lens of n letters at most, some beside them 0.
func thrown(dice *rand.Rand, n int) []int {
	leaves := []int{1, 1}
	for range dice.Intn(n) {
		k := dice.Intn(len(leaves))
		if dice.Intn(3) == 0 {
			k = len(leaves) - 1 // so that some codes become long
		}
		if leaves[k] < mostBits && len(leaves) < n {
			leaves[k]++
			leaves = append(leaves, leaves[k])
		}
	}
	dice.Shuffle(len(leaves), func(i, k int) { leaves[i], leaves[k] = leaves[k], leaves[i] })
	var l []int
	for len(leaves) > 0 {
		if dice.Intn(4) == 0 && len(l)+len(leaves) < mostLetters {
			l = append(l, 0)
			continue
		}
		l = append(l, leaves[0])
		leaves = leaves[1:]
	}
	return l
}

func TestP21_1_Example(t *testing.T) {
	coded(t, []int{1, 0, 2, 2}, []string{"0", "", "10", "11"})
}

func TestP21_1_Make(t *testing.T) {
	for _, p := range pairs {
		coded(t, p.lens, p.codes)
		coded(t, p.lens, plainly(p.lens))
	}
}

func TestP21_1_TooManyLens(t *testing.T) {
	for _, n := range []int{mostLetters + 1, mostLetters + 2, 2 * mostLetters, 1 << 16} {
		refused(t, make([]int, n), api.ErrArg)
		refused(t, slices.Repeat([]int{12}, n), api.ErrArg)
		refused(t, slices.Repeat([]int{-1}, n), api.ErrArg)
		refused(t, append([]int{1, 1}, make([]int, n-2)...), api.ErrArg) // these would be whole
	}
	most := append([]int{1, 1}, make([]int, mostLetters-1)...)
	coded(t, most[:mostLetters], plainly(most[:mostLetters]))
	refused(t, slices.Repeat([]int{1}, mostLetters), api.ErrRange)
	refused(t, make([]int, mostLetters), api.ErrRange)
}

func TestP21_1_WrongLens(t *testing.T) {
	for _, wrong := range wrongLens {
		refused(t, []int{wrong}, api.ErrArg)
		for _, p := range pairs {
			for i := range p.lens {
				l := slices.Clone(p.lens)
				l[i] = wrong
				refused(t, l, api.ErrArg)
			}
			refused(t, append(slices.Clone(p.lens), wrong), api.ErrArg)
		}
		for _, l := range notWhole {
			refused(t, append(slices.Clone(l), wrong), api.ErrArg) // ErrArg is named first
			refused(t, append([]int{wrong}, l...), api.ErrArg)
		}
		l := append([]int{1, 1}, make([]int, mostLetters-2)...)
		l[mostLetters-1] = wrong
		refused(t, l, api.ErrArg)
	}
	// What lies in the room behind the end isn't looked at.
	room := []int{2, 2, 1, 16}
	coded(t, room[:3], []string{"10", "11", "0"})
}

func TestP21_1_NotWhole(t *testing.T) {
	for _, l := range notWhole {
		refused(t, l, api.ErrRange)
		refused(t, append([]int{0, 0}, l...), api.ErrRange)
		refused(t, append(slices.Clone(l), 0), api.ErrRange)
	}
	for size := 2; size <= mostBits; size++ {
		refused(t, []int{size}, api.ErrRange)
		if 1<<size <= mostLetters {
			l := slices.Repeat([]int{size}, 1<<size)
			coded(t, l, plainly(l))
			refused(t, l[1:], api.ErrRange)
		}
		if 1<<size < mostLetters {
			refused(t, slices.Repeat([]int{size}, 1<<size+1), api.ErrRange)
		}
	}
}

// Of up to four letters each lens: whole just if the parts are, told in fractions.
func TestP21_1_FewLetters(t *testing.T) {
	many := 0
	for v := range 6 * 6 * 6 * 6 {
		l := []int{v % 6, v / 6 % 6, v / 36 % 6, v / 216}
		parts := 0.0
		for _, size := range l {
			if size > 0 {
				parts += math.Pow(2, -float64(size))
			}
		}
		if parts == 1 || there(l) == 1 && parts == 0.5 {
			many++
			coded(t, l, plainly(l))
		} else {
			refused(t, l, api.ErrRange)
		}
	}
	if many != 4+6+12+13 {
		t.Error(many)
	}
}

func TestP21_1_Thrown(t *testing.T) {
	dice := rand.New(rand.NewSource(1))
	for range 300 {
		l := thrown(dice, 300)
		coded(t, l, plainly(l))
		if there(l) > 2 {
			i := dice.Intn(len(l))
			l[i] = (l[i] + 1 + dice.Intn(mostBits)) % (mostBits + 1) // another one: they aren't whole then
			refused(t, l, api.ErrRange)
		}
	}
	l := thrown(dice, mostLetters)
	coded(t, l, plainly(l))
}

// Lens of layer 20 are whole.
func TestP21_1_OfCounts(t *testing.T) {
	dice := rand.New(rand.NewSource(2))
	for range 300 {
		counts := make([]int, 1+dice.Intn(300))
		counts[dice.Intn(len(counts))]++
		for i := range counts {
			counts[i] += dice.Intn(1<<40) >> dice.Intn(50)
		}
		l := lens.Of(counts)
		coded(t, l, plainly(l))
	}
}

func TestP21_1_NewMemory(t *testing.T) {
	for _, p := range pairs {
		room := append(slices.Clone(p.lens), 1, 2, 3)
		then := slices.Clone(room)
		c := made(t, room[:len(p.lens)])
		if !slices.Equal(room, then) {
			t.Error("what is handed in is changed", p.lens)
		}
		clear(room)
		for i, bits := range p.codes {
			of(t, c, i, bits)
		}
		// Codes of other lens don't change them.
		made(t, []int{0, 2, 2, 1})
		for i, bits := range p.codes {
			of(t, c, i, bits)
		}
	}
}

func TestP21_2_NoLetter(t *testing.T) {
	c := made(t, []int{1, 0, 2, 2})
	for _, i := range append(none, 1, 4, 5, 100, mostLetters) {
		no(t, c, i)
	}
}

func TestP21_2_NoCode(t *testing.T) {
	c := made(t, []int{1, 0, 2, 2})
	for _, p := range [][2]int{{1, 1}, {0, 2}, {1, 2}, {2, 1}, {3, 1}, {4, 2}, {0, 3}, {2, 3}, {6, 3}, {7, 3}, {0, 0}, {1, 0}, {-1, 1}, {-1, 2}, {0, -1}} {
		nobody(t, c, p[0], p[1])
	}
	strange(t, c)
}

// Of just one letter the code 1 is none.
func TestP21_2_Alone(t *testing.T) {
	for i := range 300 {
		l := make([]int, 300)
		l[i] = 1
		c := made(t, l)
		of(t, c, i, "0")
		nobody(t, c, 1, 1)
		nobody(t, c, 0, 2)
		nobody(t, c, 0, 0)
		no(t, c, i-1)
		no(t, c, i+1)
	}
}

func TestP21_2_Nil(t *testing.T) {
	var c *canon.Codes
	for _, i := range append(none, 0, 1, 15) {
		no(t, c, i)
		for n := range 16 {
			nobody(t, c, i, n)
		}
		nobody(t, c, 0, i)
	}
}

// Codes that no call made: whatever is told, it ends.
func TestP21_2_NoCallMade(t *testing.T) {
	c := &canon.Codes{}
	for _, i := range append(none, 0, 1, 15) {
		c.Of(i)
		c.Letter(i, 1)
		c.Letter(0, i)
	}
}

// found is how many codes are the first bits of 15.
func found(c *canon.Codes, v int) int {
	many := 0
	for n := range mostBits + 2 {
		if _, ok := c.Letter(v>>max(mostBits-n, 0), n); ok {
			many++
		}
	}
	return many
}

func TestP21_3_JustOne(t *testing.T) {
	dice := rand.New(rand.NewSource(3))
	all := [][]int{{1, 1}, {2, 2, 1}, slices.Repeat([]int{12}, mostLetters), thrown(dice, 20), thrown(dice, 300), thrown(dice, mostLetters)}
	for _, p := range pairs {
		all = append(all, p.lens)
	}
	for _, l := range all {
		c := made(t, l)
		for v := range 1 << mostBits {
			want := 1
			if there(l) == 1 && v >= 1<<(mostBits-1) {
				want = 0
			}
			if got := found(c, v); got != want {
				t.Fatal(l, number(v, mostBits), got, want)
			}
		}
	}
}

// No code begins with another one's bits.
func TestP21_3_NoneBeginsWithAnother(t *testing.T) {
	dice := rand.New(rand.NewSource(4))
	for range 30 {
		l := thrown(dice, 60)
		c := made(t, l)
		var codes []string
		for i := range l {
			if v, n := c.Of(i); n > 0 {
				codes = append(codes, number(v, n))
			}
		}
		for i, a := range codes {
			for k, b := range codes {
				if i != k && strings.HasPrefix(a, b) {
					t.Fatal(l, a, b)
				}
			}
		}
	}
}
