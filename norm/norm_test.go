package norm_test

import (
	"math"
	"math/big"
	"math/rand"
	"slices"
	"testing"

	"winepress/api"
	"winepress/norm"
)

// pair is counts, and the shares that the document says they have.
type pair struct {
	counts []int
	bits   int
	shares []int
}

var pairs = []pair{
	{[]int{3, 0, 1}, 2, []int{3, 0, 1}},
	{[]int{100, 1, 1}, 2, []int{2, 1, 1}},
	{[]int{7}, 1, []int{2}},
	{[]int{7}, 16, []int{65536}},
	{[]int{0, 0, 1, 0}, 12, []int{0, 0, 4096, 0}},
	{[]int{1, 3}, 1, []int{1, 1}},             // of 0, and 1
	{[]int{2, 2, 3}, 4, []int{4, 4, 8}},       // of 4, 4, 6: rounded down
	{[]int{1, 1 << 40}, 16, []int{1, 65535}},  // of 1, and 65535
	{[]int{1 << 40, 1 << 40}, 1, []int{1, 1}}, // nothing goes beyond a number
	{[]int{1 << 40, 0, 1}, 2, []int{3, 0, 1}}, // of 3, 0, 1
	{[]int{1, 1, 1, 1}, 2, []int{1, 1, 1, 1}}, // just as many as there is to share
	{[]int{9, 9, 9, 9, 9}, 3, []int{4, 1, 1, 1, 1}},
	{[]int{0, 5, 5, 5}, 3, []int{0, 4, 2, 2}}, // of 2, 2, 2: the first of the greatest
	{[]int{1, 1, 1}, 2, []int{2, 1, 1}},
	{[]int{10, 11, 11}, 3, []int{2, 4, 2}}, // of 2, 2, 2: the greatest count, not the greatest share
	{[]int{10, 11, 12, 11, 12}, 4, []int{2, 3, 5, 3, 3}},
	{[]int{1, 1, 1, 100, 101}, 3, []int{1, 1, 1, 2, 3}},       // of 1, 1, 1, 3, 3: the greatest share, not the greatest count
	{[]int{1, 1, 1, 1, 100, 101}, 3, []int{1, 1, 1, 1, 2, 2}}, // anew each time
	{[]int{1, 1, 1, 1, 1, 100, 101}, 3, []int{1, 1, 1, 1, 1, 1, 2}},
	{[]int{100, 101, 1, 1, 1, 1, 1, 0}, 3, []int{1, 2, 1, 1, 1, 1, 1, 0}},
}

// wrongBits is of how many bits nothing is shared.
var wrongBits = []int{0, -1, -2, 17, 18, 63, 64, 65, 1<<32 + 1, math.MaxInt, math.MinInt}

// wrongCounts is what no count is.
var wrongCounts = []int{-1, -2, -1 << 40, 1<<40 + 1, 1 << 41, 1 << 62, math.MaxInt, math.MinInt}

// plain is counts as shares by the document's words, in numbers that have no end.
func plain(counts []int, bits int) []int {
	whole, all := big.NewInt(1<<bits), new(big.Int)
	for _, count := range counts {
		all.Add(all, big.NewInt(int64(count)))
	}
	shares, left, great := make([]int, len(counts)), 1<<bits, 0
	for i, count := range counts {
		if count > 0 {
			part := new(big.Int).Mul(whole, big.NewInt(int64(count)))
			shares[i] = int(part.Div(part, all).Int64())
			if shares[i] == 0 {
				shares[i] = 1
			}
		}
		left -= shares[i]
		if count > counts[great] {
			great = i
		}
	}
	if left > 0 {
		shares[great] += left
	}
	for ; left < 0; left++ {
		shares[slices.Index(shares, slices.Max(shares))]--
	}
	return shares
}

// norms asks for just these shares.
func norms(t *testing.T, counts []int, bits int, want []int) {
	t.Helper()
	if got, e := norm.Norm(counts, bits); e != api.OK || !slices.Equal(got, want) {
		t.Errorf("Norm of %v by %d: %v, %d, not %v", counts, bits, got, e, want)
	}
}

// refused asks for an error, and nothing.
func refused(t *testing.T, counts []int, bits int, want api.Errno) {
	t.Helper()
	if got, e := norm.Norm(counts, bits); e != want || len(got) != 0 {
		t.Errorf("Norm of %d counts by %d: %d shares, %d, not %d", len(counts), bits, len(got), e, want)
	}
}

// thrown is so many counts of a kind: few, many, or some of them far greater than others, and 0 among them.
func thrown(dice *rand.Rand, n int) []int {
	counts := make([]int, n)
	kind := dice.Intn(4)
	for i := range counts {
		switch kind {
		case 0:
			counts[i] = dice.Intn(4)
		case 1:
			counts[i] = dice.Intn(1<<40 + 1)
		case 2:
			counts[i] = 1 << dice.Intn(41) >> dice.Intn(4)
		default:
			counts[i] = 1 + dice.Intn(2)
			if dice.Intn(8) == 0 {
				counts[i] = 5000 + dice.Intn(3)
			}
		}
	}
	return counts
}

// above is how many counts are above 0.
func above(counts []int) int {
	many := 0
	for _, count := range counts {
		if count != 0 {
			many++
		}
	}
	return many
}

// filled is n counts, all alike.
func filled(n, count int) []int {
	return slices.Repeat([]int{count}, n)
}

func TestP14_1_Norm(t *testing.T) {
	for _, p := range pairs {
		norms(t, p.counts, p.bits, p.shares)
	}
}

func TestP14_1_AsManyAsMayBe(t *testing.T) {
	for bits := 1; bits <= 12; bits++ {
		norms(t, filled(1<<bits, 1<<40), bits, filled(1<<bits, 1))
		norms(t, filled(1<<bits, 1), bits, filled(1<<bits, 1))
	}
	norms(t, filled(4096, 1<<40), 16, filled(4096, 16))
	last := filled(4096, 1)
	last[4095] = 1 << 40
	norms(t, last, 12, filled(4096, 1))
	one := make([]int, 4096)
	one[4095] = 1 << 40
	norms(t, one, 1, plain(one, 1))
	norms(t, last, 16, plain(last, 16))
}

func TestP14_1_WrongBits(t *testing.T) {
	for _, bits := range wrongBits {
		for _, counts := range [][]int{nil, {0}, {1}, {1, 2, 3}, {-1}, filled(4096, 1), filled(4097, 1)} {
			refused(t, counts, bits, api.ErrArg)
		}
	}
}

func TestP14_1_TooManyCounts(t *testing.T) {
	for _, n := range []int{4097, 4098, 8192, 1 << 17} {
		for _, bits := range []int{1, 12, 13, 16} {
			refused(t, make([]int, n), bits, api.ErrArg) // ErrArg is named first
			refused(t, filled(n, 1), bits, api.ErrArg)
			one := make([]int, n)
			one[0] = 1
			refused(t, one, bits, api.ErrArg)
		}
	}
}

func TestP14_1_WrongCounts(t *testing.T) {
	for _, count := range wrongCounts {
		for _, counts := range [][]int{{count}, {count, 1}, {1, count}, {1, 2, count, 3}, {0, count}, {1, 1, 1, 1, 1, count}} {
			for _, bits := range []int{1, 2, 16} {
				refused(t, counts, bits, api.ErrArg)
			}
		}
		last := filled(4096, 1)
		last[4095] = count
		refused(t, last, 1, api.ErrArg)
		refused(t, last, 12, api.ErrArg)
	}
}

func TestP14_1_NoneAboveNought(t *testing.T) {
	for _, counts := range [][]int{nil, {}, {0}, {0, 0, 0}, make([]int, 256), make([]int, 4096)} {
		for bits := 1; bits <= 16; bits++ {
			refused(t, counts, bits, api.ErrRange)
		}
	}
}

func TestP14_1_TooManyAboveNought(t *testing.T) {
	for bits := 1; bits < 12; bits++ {
		most := filled(1<<bits, 3)
		norms(t, append(most, 0, 0), bits, append(filled(1<<bits, 1), 0, 0))
		refused(t, append(most, 3), bits, api.ErrRange)
		refused(t, append(most, 0, 0, 1), bits, api.ErrRange)
		refused(t, filled(4096, 1<<40), bits, api.ErrRange)
	}
}

func TestP14_1_LikeThePlainOne(t *testing.T) {
	dice := rand.New(rand.NewSource(1))
	for k := range 4000 {
		n, bits := 1+dice.Intn(40), 1+dice.Intn(16)
		if k%100 == 0 {
			n = 1 + dice.Intn(4096)
		}
		counts := thrown(dice, n)
		if many := above(counts); many == 0 || many > 1<<bits {
			refused(t, counts, bits, api.ErrRange)
			continue
		}
		norms(t, counts, bits, plain(counts, bits))
	}
}

// All rows of four small counts, by each few bits.
func TestP14_1_AllSmallCounts(t *testing.T) {
	const few = 7
	for v := range few * few * few * few {
		counts := []int{v % few, v / few % few, v / few / few % few, v / few / few / few}
		for bits := 1; bits <= 4; bits++ {
			if many := above(counts); many == 0 || many > 1<<bits {
				refused(t, counts, bits, api.ErrRange)
				continue
			}
			norms(t, counts, bits, plain(counts, bits))
		}
	}
}

func TestP14_1_NewMemory(t *testing.T) {
	for _, p := range pairs {
		room := append(slices.Clone(p.counts), 1, 2, 3)
		then := slices.Clone(room)
		got, e := norm.Norm(room[:len(p.counts)], p.bits)
		if e != api.OK || !slices.Equal(room, then) {
			t.Error("what is handed in is changed", p.counts, e)
		}
		clear(room)
		if !slices.Equal(got, p.shares) {
			t.Error("the answer is in the caller's memory", p.counts)
		}
		copy(room, then)
		clear(got)
		_ = append(got, 99)
		if !slices.Equal(room, then) {
			t.Error("the caller's memory is in the answer", p.counts)
		}
		norms(t, p.counts, p.bits, p.shares)
	}
}

// counted asks that just these bytes are there as often.
func counted(t *testing.T, b []byte, want map[byte]int) {
	t.Helper()
	got := norm.Count(b)
	if len(got) != 256 {
		t.Fatal(len(b), len(got))
	}
	for c, many := range got {
		if many != want[byte(c)] {
			t.Error(len(b), c, many, want[byte(c)])
		}
	}
}

func TestP14_2_Count(t *testing.T) {
	counted(t, nil, nil)
	counted(t, []byte{}, nil)
	counted(t, []byte{0}, map[byte]int{0: 1})
	counted(t, []byte{255}, map[byte]int{255: 1})
	counted(t, []byte{1, 2, 1, 255, 0, 1}, map[byte]int{0: 1, 1: 3, 2: 1, 255: 1})
	counted(t, make([]byte, 1<<20), map[byte]int{0: 1 << 20})
}

func TestP14_2_EachByte(t *testing.T) {
	var b []byte
	want := map[byte]int{}
	for c := range 256 {
		for range c % 7 {
			b = append(b, byte(c))
		}
		want[byte(c)] = c % 7
	}
	counted(t, b, want)
	slices.Reverse(b)
	counted(t, b, want)
}

func TestP14_2_NewMemory(t *testing.T) {
	room := []byte{1, 2, 3, 4, 5}
	got := norm.Count(room[:3])
	if !slices.Equal(room, []byte{1, 2, 3, 4, 5}) || got[4] != 0 || got[5] != 0 {
		t.Error(room, got)
	}
	clear(got)
	counted(t, room[:3], map[byte]int{1: 1, 2: 1, 3: 1})
}

func TestP14_3_TheSharesTogether(t *testing.T) {
	dice := rand.New(rand.NewSource(2))
	for range 4000 {
		counts, bits := thrown(dice, 1+dice.Intn(300)), 1+dice.Intn(16)
		shares, e := norm.Norm(counts, bits)
		if e != api.OK {
			refused(t, counts, bits, api.ErrRange)
			continue
		}
		sum := 0
		for i, share := range shares {
			sum += share
			if share < 0 || (share == 0) != (counts[i] == 0) {
				t.Fatal(counts, bits, i, share)
			}
		}
		if sum != 1<<bits || len(shares) != len(counts) {
			t.Fatal(counts, bits, sum)
		}
	}
}

// What bytes have is shared, too: those that aren't there get nothing.
func TestP14_3_OfBytes(t *testing.T) {
	for _, b := range [][]byte{{65}, {0, 255}, []byte("abracadabra")} {
		counts := norm.Count(b)
		norms(t, counts, api.RansBits, plain(counts, api.RansBits))
	}
	refused(t, norm.Count(nil), api.RansBits, api.ErrRange)
}
