package slot_test

import (
	"math"
	"math/rand"
	"slices"
	"testing"

	"winepress/api"
	"winepress/norm"
	"winepress/slot"
)

// wrongBits is of how many bits there are no numbers.
var wrongBits = []int{0, -1, -2, 17, 18, 63, 64, 65, 1<<32 + 1, math.MaxInt, math.MinInt}

// none is what is no letter, nor any number, whatever was shared out.
var none = []int{-1, -2, -4096, 1 << 17, 1 << 32, 1<<32 + 1, math.MaxInt, math.MinInt}

// filled is n shares, all alike.
func filled(n, share int) []int {
	return slices.Repeat([]int{share}, n)
}

// thrown is so many shares of so many bits, some of them 0.
func thrown(dice *rand.Rand, n, bits int) []int {
	shares := make([]int, n)
	for left := 1 << bits; left > 0; {
		part := 1 + dice.Intn(left)
		if dice.Intn(3) > 0 {
			part = min(part, 1+dice.Intn(9))
		}
		shares[dice.Intn(n)] += part
		left -= part
	}
	return shares
}

// made asks for numbers that are shared out.
func made(t *testing.T, shares []int, bits int) *slot.Slots {
	t.Helper()
	s, e := slot.Make(shares, bits)
	if e != api.OK || s == nil {
		t.Fatalf("Make of %d shares by %d: %d", len(shares), bits, e)
	}
	return s
}

// refused asks for an error, and nothing.
func refused(t *testing.T, shares []int, bits int, want api.Errno) {
	t.Helper()
	if s, e := slot.Make(shares, bits); e != want || s != nil {
		t.Errorf("Make of %d shares by %d: %d, not %d", len(shares), bits, e, want)
	}
}

// of asks for just this of a letter.
func of(t *testing.T, s *slot.Slots, i, first, share int) {
	t.Helper()
	if a, b := s.Of(i); a != first || b != share {
		t.Errorf("Of %d: %d, %d, not %d, %d", i, a, b, first, share)
	}
}

// letter asks whose a number is.
func letter(t *testing.T, s *slot.Slots, v, i int) {
	t.Helper()
	if got, ok := s.Letter(v); got != i || !ok {
		t.Errorf("Letter of %d: %d, %v, not %d", v, got, ok, i)
	}
}

// nobody asks that a number is no letter's.
func nobody(t *testing.T, s *slot.Slots, v int) {
	t.Helper()
	if got, ok := s.Letter(v); got != 0 || ok {
		t.Errorf("Letter of %d: %d, %v", v, got, ok)
	}
}

// shared asks for all that the document says of these shares.
func shared(t *testing.T, shares []int, bits int) {
	t.Helper()
	s := made(t, shares, bits)
	if s.Bits() != bits {
		t.Error("Bits", s.Bits(), bits)
	}
	v := 0
	for i, share := range shares {
		of(t, s, i, v, share)
		for range share {
			letter(t, s, v, i)
			v++
		}
	}
	for _, beyond := range append(none, v, v+1, 2*v) {
		nobody(t, s, beyond)
	}
	for _, i := range append(none, len(shares), len(shares)+1, 4096) {
		of(t, s, i, 0, 0)
	}
}

func TestP15_1_Example(t *testing.T) {
	s := made(t, []int{3, 0, 1}, 2)
	for v, i := range []int{0, 0, 0, 2} {
		letter(t, s, v, i)
	}
	shared(t, []int{3, 0, 1}, 2)
}

func TestP15_1_Make(t *testing.T) {
	for _, c := range []struct {
		shares []int
		bits   int
	}{
		{[]int{2}, 1},
		{[]int{1, 1}, 1},
		{[]int{0, 2, 0}, 1},
		{[]int{0, 0, 1, 0, 1, 0, 0}, 1},
		{[]int{65536}, 16},
		{[]int{65535, 1}, 16},
		{[]int{1, 65535}, 16},
		{filled(4096, 1), 12},
		{filled(4096, 16), 16},
		{append(make([]int, 4095), 2), 1},
		{append([]int{2}, make([]int, 4095)...), 1},
		{append(make([]int, 4095), 65536), 16},
	} {
		shared(t, c.shares, c.bits)
	}
}

func TestP15_1_WrongBits(t *testing.T) {
	for _, bits := range wrongBits {
		for _, shares := range [][]int{nil, {0}, {1}, {1, 1}, {-1}, {2, 2}, {1 << 17}, {math.MaxInt}, filled(4096, 1), filled(4097, 1)} {
			refused(t, shares, bits, api.ErrArg)
		}
	}
}

func TestP15_1_TooManyShares(t *testing.T) {
	for _, n := range []int{4097, 4098, 8192, 1 << 16} {
		refused(t, filled(n, 1), 16, api.ErrArg)
		for _, bits := range []int{1, 12, 16} {
			refused(t, make([]int, n), bits, api.ErrArg)
			first := make([]int, n)
			first[0] = 1 << bits // just what is to be shared
			refused(t, first, bits, api.ErrArg)
		}
	}
}

func TestP15_1_BelowNought(t *testing.T) {
	for _, share := range []int{-1, -2, -65536, math.MinInt} {
		// The last one is told ahead of any that are too many.
		for _, shares := range [][]int{{share}, {share, 1}, {4, share}, {5, share}, {share, 4 - share}, {4 - share, share}, {1, 1, share, 1, 1}, {math.MaxInt, share}, {math.MaxInt, math.MaxInt, 6, share}} {
			refused(t, shares, 2, api.ErrArg)
		}
	}
}

func TestP15_1_AnotherSum(t *testing.T) {
	for bits := 1; bits <= 16; bits++ {
		whole := 1 << bits
		for _, shares := range [][]int{nil, {}, {0}, {0, 0}, make([]int, 4096), {whole - 1}, {whole + 1}, {whole / 2}, {2 * whole}, {whole, 1}, {1, whole}, {whole / 2, whole/2 - 1}, {whole / 2, 0, whole/2 + 1}, {0, whole, 0, whole}} {
			refused(t, shares, bits, api.ErrRange)
		}
		// Shares that together go beyond a number, to just the whole.
		refused(t, []int{math.MaxInt, math.MaxInt, whole + 2}, bits, api.ErrRange)
		refused(t, []int{1 << 62, 1 << 62, 1 << 62, 1 << 62, whole}, bits, api.ErrRange)
		refused(t, []int{whole, 1 << 62, 1 << 62, 1 << 62, 1 << 62}, bits, api.ErrRange)
		refused(t, []int{math.MaxInt}, bits, api.ErrRange)
	}
	refused(t, filled(4096, 1), 11, api.ErrRange)
	refused(t, filled(4096, 1), 13, api.ErrRange)
	refused(t, filled(4096, math.MaxInt), 16, api.ErrRange)
}

// What is handed in stays as it is, and is not kept.
func TestP15_1_NewMemory(t *testing.T) {
	room := []int{3, 0, 1, 7, 7}
	s := made(t, room[:3], 2)
	if !slices.Equal(room, []int{3, 0, 1, 7, 7}) {
		t.Error(room)
	}
	other := made(t, []int{1, 3}, 2)
	clear(room)
	for v, i := range []int{0, 0, 0, 2} {
		letter(t, s, v, i)
	}
	of(t, s, 0, 0, 3)
	of(t, s, 2, 3, 1)
	of(t, s, 3, 0, 0)
	of(t, other, 1, 1, 3)
}

// One whose share is 0 is where it would be: also ahead of all, and behind all.
func TestP15_2_OfNoShare(t *testing.T) {
	s := made(t, []int{0, 3, 0, 0, 1, 0}, 2)
	for i, first := range []int{0, 0, 3, 3, 3, 4} {
		of(t, s, i, first, []int{0, 3, 0, 0, 1, 0}[i])
	}
	of(t, s, 6, 0, 0)
	of(t, s, -1, 0, 0)
}

func TestP15_2_LetterOfNone(t *testing.T) {
	for bits := 1; bits <= 16; bits++ {
		s := made(t, []int{0, 1 << bits, 0}, bits)
		letter(t, s, 0, 1)
		letter(t, s, 1<<bits-1, 1)
		for _, v := range append(none, 1<<bits, 1<<bits+1) {
			nobody(t, s, v)
		}
	}
}

func TestP15_2_Bits(t *testing.T) {
	for bits := 1; bits <= 16; bits++ {
		if s := made(t, []int{1 << bits}, bits); s.Bits() != bits {
			t.Error(s.Bits(), bits)
		}
	}
}

func TestP15_2_Nil(t *testing.T) {
	var s *slot.Slots
	for _, v := range append(none, 0, 1, 4095) {
		of(t, s, v, 0, 0)
		nobody(t, s, v)
	}
	if s.Bits() != 0 {
		t.Error(s.Bits())
	}
}

// What no call made ends, at least.
func TestP15_2_NoneMade(t *testing.T) {
	s := &slot.Slots{}
	for _, v := range append(none, 0, 1, 4095) {
		s.Of(v)
		s.Letter(v)
	}
	s.Bits()
}

func TestP15_3_EachNumberIsOneLetters(t *testing.T) {
	dice := rand.New(rand.NewSource(1))
	for range 60 {
		for bits := 1; bits <= 10; bits++ {
			shared(t, thrown(dice, 1+dice.Intn(300), bits), bits)
		}
	}
	for bits := 11; bits <= 16; bits++ {
		shared(t, thrown(dice, 1+dice.Intn(4096), bits), bits)
	}
}

func TestP15_3_WithinItsOwn(t *testing.T) {
	dice := rand.New(rand.NewSource(2))
	for range 40 {
		bits := 1 + dice.Intn(12)
		s := made(t, thrown(dice, 1+dice.Intn(256), bits), bits)
		for v := range 1 << bits {
			i, ok := s.Letter(v)
			if first, share := s.Of(i); !ok || v < first || v >= first+share {
				t.Fatal(bits, v, i, first, share)
			}
		}
	}
}

// Whatever counts there are: their shares are shared out.
func TestP15_3_SharesOfCounts(t *testing.T) {
	for _, b := range [][]byte{{65}, {0, 255}, []byte("abracadabra")} {
		shares, e := norm.Norm(norm.Count(b), api.RansBits)
		if e != api.OK {
			t.Fatal(e)
		}
		shared(t, shares, api.RansBits)
	}
}
