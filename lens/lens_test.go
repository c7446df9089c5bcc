package lens_test

import (
	"math"
	"math/big"
	"math/rand"
	"slices"
	"testing"

	"winepress/lens"
)

const (
	mostLetters = 4096
	mostCount   = 1 << 40
	mostBits    = 15
)

// wrongCounts is what no count is.
var wrongCounts = []int{-1, -2, -mostCount, mostCount + 1, mostCount + 2, 1 << 41, 1 << 62, math.MaxInt, math.MinInt}

// pair is counts, and the lens that the document's words give them.
type pair struct {
	counts, lens []int
}

var pairs = []pair{
	{[]int{5, 0, 2, 1}, []int{1, 0, 2, 2}},
	{[]int{0, 9}, []int{0, 1}},
	{[]int{9}, []int{1}},
	{[]int{1}, []int{1}},
	{[]int{mostCount}, []int{1}},
	{[]int{0}, []int{0}},
	{[]int{0, 0, 0}, []int{0, 0, 0}},
	{[]int{0, 0, 7, 0}, []int{0, 0, 1, 0}},
	{[]int{1, 1}, []int{1, 1}},
	{[]int{1, mostCount}, []int{1, 1}},
	{[]int{0, 3, 0, 8, 0}, []int{0, 1, 0, 1, 0}},
	{[]int{1, 1, 1}, []int{2, 2, 1}},
	{[]int{2, 1, 1}, []int{1, 2, 2}},
	{[]int{1, 2, 1}, []int{2, 1, 2}},
	{[]int{1, 1, 2}, []int{2, 2, 1}},
	{[]int{1, 1, 1, 1}, []int{2, 2, 2, 2}},
	{[]int{2, 1, 1, 2}, []int{2, 2, 2, 2}},
	{[]int{3, 1, 1, 1}, []int{1, 3, 3, 2}},
	// Of things of one weight the one of the least number goes first: letters ahead of what stands above some.
	{[]int{1, 1, 1, 1, 2}, []int{3, 3, 2, 2, 2}},
	{[]int{2, 1, 1, 1, 1}, []int{2, 3, 3, 2, 2}},
	{[]int{1, 1, 2, 2, 4}, []int{3, 3, 2, 2, 2}},
	{[]int{1, 1, 1, 1, 1}, []int{3, 3, 2, 2, 2}},
	{[]int{0, 1, 0, 1, 0, 1, 1, 2, 0}, []int{0, 3, 0, 3, 0, 2, 2, 2, 0}},
	{[]int{mostCount, mostCount, mostCount}, []int{2, 2, 1}},
	// A tree that is as deep as may be, and one that is deeper by one: of its counts' halves two rows rise side by side.
	{rising(16), []int{15, 15, 14, 13, 12, 11, 10, 9, 8, 7, 6, 5, 4, 3, 2, 1}},
	{rising(17), []int{9, 9, 8, 8, 8, 7, 7, 6, 6, 5, 5, 4, 4, 3, 3, 2, 2}},
}

// rising is n counts, each of those from the third on the two ahead together: of no others of the same sum is a tree as deep.
func rising(n int) []int {
	l := []int{1, 1}
	for len(l) < n {
		l = append(l, l[len(l)-1]+l[len(l)-2])
	}
	return l[:n]
}

// doubling is n counts, each but the first one twice the one ahead.
func doubling(n int) []int {
	l := make([]int, n)
	for i := range l {
		l[i] = 1 << i
	}
	return l
}

// thing is one of a tree, with the letters that it stands above.
type thing struct {
	weight, number int
	letters        []int
}

// depths is how deep each letter is, by the document's words.
func depths(counts []int) []int {
	var heap []thing
	for i, count := range counts {
		if count > 0 {
			heap = append(heap, thing{count, len(heap), []int{i}})
		}
	}
	next, l := len(heap), make([]int, len(counts))
	least := func() thing {
		k := 0
		for i, one := range heap {
			if one.weight < heap[k].weight || one.weight == heap[k].weight && one.number < heap[k].number {
				k = i
			}
		}
		one := heap[k]
		heap = slices.Delete(heap, k, k+1)
		return one
	}
	for len(heap) > 1 {
		a := least()
		b := least()
		both := slices.Concat(a.letters, b.letters)
		for _, i := range both {
			l[i]++
		}
		heap = append(heap, thing{a.weight + b.weight, next, both})
		next++
	}
	return l
}

// plainly is the lens by the document's words, and how often counts were halved.
func plainly(counts []int) ([]int, int) {
	there := 0
	for _, count := range counts {
		there += min(count, 1)
	}
	if there == 1 {
		l := slices.Clone(counts)
		for i := range l {
			l[i] = min(l[i], 1)
		}
		return l, 0
	}
	for times := 0; ; times++ {
		l := depths(counts)
		if len(l) == 0 || slices.Max(l) <= mostBits {
			return l, times
		}
		counts = slices.Clone(counts)
		for i := range counts {
			counts[i] = counts[i]/2 + counts[i]%2
		}
	}
}

// of asks for just these lens.
func of(t *testing.T, counts, want []int) {
	t.Helper()
	if got := lens.Of(counts); !slices.Equal(got, want) {
		t.Errorf("Of %d counts %v: %v, not %v", len(counts), counts[:min(len(counts), 40)], got, want)
	}
}

// nothing asks that such counts have no lens.
func nothing(t *testing.T, counts []int) {
	t.Helper()
	if got := lens.Of(counts); len(got) != 0 {
		t.Errorf("Of %d counts %v: %v", len(counts), counts[:min(len(counts), 40)], got)
	}
}

// cost asks for just this.
func cost(t *testing.T, counts, l []int, want int) {
	t.Helper()
	if got := lens.Cost(counts, l); got != want {
		t.Errorf("Cost of %v, %v: %d, not %d", counts, l, got, want)
	}
}

// thrown is n counts of one kind: few alike, any up to a size, of any size, all of them great.
func thrown(dice *rand.Rand, n int) []int {
	l := make([]int, n)
	kind, size := dice.Intn(5), 1+dice.Intn(1000)
	for i := range l {
		switch kind {
		case 0:
			l[i] = dice.Intn(4)
		case 1:
			l[i] = dice.Intn(size)
		case 2:
			l[i] = dice.Intn(mostCount+1) >> dice.Intn(41)
		case 3:
			l[i] = mostCount - dice.Intn(3)
		default:
			l[i] = 1 << dice.Intn(41)
		}
		if dice.Intn(6) == 0 {
			l[i] = 0
		}
	}
	return l
}

// there is how many counts are above 0.
func there(counts []int) int {
	many := 0
	for _, count := range counts {
		if count > 0 {
			many++
		}
	}
	return many
}

func TestP20_1_Examples(t *testing.T) {
	of(t, []int{5, 0, 2, 1}, []int{1, 0, 2, 2})
	of(t, []int{0, 9}, []int{0, 1})
}

func TestP20_1_Of(t *testing.T) {
	for _, p := range pairs {
		of(t, p.counts, p.lens)
		want, _ := plainly(p.counts)
		of(t, p.counts, want)
	}
	of(t, nil, nil)
	of(t, []int{}, nil)
}

func TestP20_1_EachAlone(t *testing.T) {
	for _, n := range []int{1, 2, 256, mostLetters} {
		for _, count := range []int{1, 2, 3, 1000, mostCount - 1, mostCount} {
			for _, i := range []int{0, n / 2, n - 1} {
				counts, want := make([]int, n), make([]int, n)
				counts[i], want[i] = count, 1
				of(t, counts, want)
			}
		}
	}
}

func TestP20_1_FewLetters(t *testing.T) {
	for n := range 7 * 7 * 7 * 7 * 7 {
		counts := []int{n % 7, n / 7 % 7, n / 49 % 7, n / 343 % 7, n / 2401}
		want, _ := plainly(counts)
		of(t, counts, want)
	}
}

func TestP20_1_AllAlike(t *testing.T) {
	for _, count := range []int{1, 2, 1000, mostCount} {
		for n := 1; n < 300; n++ {
			counts := slices.Repeat([]int{count}, n)
			want, _ := plainly(counts)
			of(t, counts, want)
		}
		of(t, slices.Repeat([]int{count}, mostLetters), slices.Repeat([]int{12}, mostLetters))
	}
}

func TestP20_1_TooManyCounts(t *testing.T) {
	for _, n := range []int{mostLetters + 1, mostLetters + 2, 2 * mostLetters, 1 << 16} {
		nothing(t, make([]int, n))
		nothing(t, slices.Repeat([]int{1}, n))
		nothing(t, slices.Repeat([]int{-1}, n))
	}
	room := slices.Repeat([]int{1}, mostLetters+1)
	if got := lens.Of(room[:mostLetters]); len(got) != mostLetters {
		t.Error(len(got))
	}
}

func TestP20_1_WrongCounts(t *testing.T) {
	for _, wrong := range wrongCounts {
		nothing(t, []int{wrong})
		for _, p := range pairs {
			for i := range p.counts {
				counts := slices.Clone(p.counts)
				counts[i] = wrong
				nothing(t, counts)
			}
			nothing(t, append(slices.Clone(p.counts), wrong))
		}
		counts := slices.Repeat([]int{1}, mostLetters)
		counts[mostLetters-1] = wrong
		nothing(t, counts)
	}
	// What lies in the room behind the end isn't looked at.
	room := []int{1, 2, 3, -1}
	of(t, room[:3], []int{2, 2, 1})
}

// Of a tree that is too deep counts are halved, rounded up, till none is.
func TestP20_1_Halved(t *testing.T) {
	often := map[int]int{}
	for n := 2; n < 56; n++ {
		for _, counts := range [][]int{rising(n), doubling(min(n, 41)), append(doubling(min(n, 41)), doubling(min(n, 41))...)} {
			slices.Sort(counts)
			for _, l := range [][]int{counts, backwards(counts), append(append([]int{0}, counts...), 0, 0)} {
				want, times := plainly(l)
				of(t, l, want)
				often[times]++
			}
		}
	}
	for times := range 20 {
		if often[times] == 0 {
			t.Error("never halved so often", times)
		}
	}
}

// backwards is a list, the last one first.
func backwards(l []int) []int {
	l = slices.Clone(l)
	slices.Reverse(l)
	return l
}

func TestP20_1_Thrown(t *testing.T) {
	dice := rand.New(rand.NewSource(1))
	halved := 0
	for range 3000 {
		counts := thrown(dice, dice.Intn(70))
		want, times := plainly(counts)
		of(t, counts, want)
		halved += min(times, 1)
	}
	if halved < 100 {
		t.Error("too few are halved", halved)
	}
	for range 3 {
		counts := thrown(dice, mostLetters)
		want, _ := plainly(counts)
		of(t, counts, want)
	}
}

func TestP20_1_NewMemory(t *testing.T) {
	for _, p := range append(pairs, pair{rising(30), lens.Of(rising(30))}) {
		room := append(slices.Clone(p.counts), 1, 2, 3)
		then := slices.Clone(room)
		got := lens.Of(room[:len(p.counts)])
		if !slices.Equal(room, then) {
			t.Error("what is handed in is changed", p.counts)
		}
		clear(room)
		if !slices.Equal(got, p.lens) {
			t.Error("the answer is in the caller's memory", p.counts)
		}
		_ = append(got, 99)
		clear(got)
		of(t, p.counts, p.lens)
	}
}

func TestP20_2_Cost(t *testing.T) {
	cost(t, []int{5, 0, 2, 1}, []int{1, 0, 2, 2}, 11)
	cost(t, []int{0, 9}, []int{0, 1}, 9)
	cost(t, []int{7}, []int{3}, 21)
	cost(t, []int{0, 0}, []int{5, 5}, 0)
	cost(t, []int{5, 5}, []int{0, 0}, 0)
	cost(t, nil, nil, 0)
	cost(t, []int{}, nil, 0)
	cost(t, nil, []int{}, 0)
	// There may be ever so many, whatever Of takes.
	cost(t, slices.Repeat([]int{2}, 100000), slices.Repeat([]int{3}, 100000), 600000)
}

func TestP20_2_NotAsMany(t *testing.T) {
	l := []int{1, 2, 3, 4, 5}
	for n := range l {
		cost(t, l[:n], l, 0)
		cost(t, l, l[:n], 0)
	}
	cost(t, nil, l, 0)
	cost(t, l, nil, 0)
	cost(t, l, []int{1, 2, 3, 4, 5, 0}, 0)
}

func TestP20_2_WhateverNumbers(t *testing.T) {
	cost(t, []int{-1}, []int{1}, -1)
	cost(t, []int{-1}, []int{-1}, 1)
	cost(t, []int{-3, 4}, []int{5, -6}, -39)
	cost(t, []int{math.MaxInt, 1}, []int{1, 1}, math.MinInt)
	cost(t, []int{math.MaxInt}, []int{2}, -2)
	cost(t, []int{math.MinInt}, []int{2}, 0)
	cost(t, []int{math.MinInt}, []int{-1}, math.MinInt)
	cost(t, []int{math.MinInt, math.MinInt}, []int{1, 1}, 0)
	cost(t, []int{1 << 32}, []int{1 << 32}, 0)
	cost(t, []int{1<<32 + 1}, []int{1<<32 + 1}, 1<<33+1)
}

func TestP20_2_Thrown(t *testing.T) {
	dice := rand.New(rand.NewSource(2))
	for range 2000 {
		n := dice.Intn(30)
		counts, l, sum := make([]int, n), make([]int, n), new(big.Int)
		for i := range n {
			counts[i], l[i] = int(dice.Uint64())>>dice.Intn(64), int(dice.Uint64())>>dice.Intn(64)
			sum.Add(sum, new(big.Int).Mul(big.NewInt(int64(counts[i])), big.NewInt(int64(l[i]))))
		}
		low := new(big.Int).And(sum, new(big.Int).SetUint64(math.MaxUint64))
		cost(t, counts, l, int(low.Uint64()))
	}
}

func TestP20_2_StaysAsItIs(t *testing.T) {
	counts, l := []int{5, 0, 2, 1}, []int{1, 0, 2, 2}
	cost(t, counts[:3], l[:3], 9)
	if !slices.Equal(counts, []int{5, 0, 2, 1}) || !slices.Equal(l, []int{1, 0, 2, 2}) {
		t.Error(counts, l)
	}
}

// whole asks that 2 to the power of less their lens, together, is 1, and that just letters that are there have one.
func whole(t *testing.T, counts []int) {
	t.Helper()
	l, parts := lens.Of(counts), 0
	if len(l) != len(counts) {
		t.Fatal(len(l), len(counts))
	}
	for i, size := range l {
		if size < 0 || size > mostBits || size == 0 != (counts[i] == 0) {
			t.Fatal(counts, l)
		}
		if size > 0 {
			parts += 1 << (mostBits - size)
		}
	}
	if there(counts) > 1 && parts != 1<<mostBits {
		t.Error(counts, l)
	}
}

func TestP20_3_Together(t *testing.T) {
	dice := rand.New(rand.NewSource(3))
	for range 2000 {
		whole(t, thrown(dice, dice.Intn(200)))
	}
	for n := 2; n < 56; n++ {
		whole(t, rising(n))
		whole(t, backwards(rising(n)))
		whole(t, doubling(min(n, 41)))
	}
	for range 20 {
		whole(t, thrown(dice, mostLetters))
	}
}

// Many letters of which some are ever so often there: the deepest trees of all.
func TestP20_3_MostLetters(t *testing.T) {
	counts := slices.Repeat([]int{1}, mostLetters)
	whole(t, counts)
	for i := range 41 {
		counts[i*99] = 1 << i
	}
	whole(t, counts)
	for i := range counts {
		counts[i] = 1 << (i % 41)
	}
	whole(t, counts)
	for i := range counts {
		counts[i] = mostCount >> min(i, 40)
	}
	whole(t, counts)
}

func TestP20_4_MoreOftenShorter(t *testing.T) {
	dice := rand.New(rand.NewSource(4))
	many := 0
	for range 1500 {
		counts := thrown(dice, dice.Intn(60))
		if d := depths(counts); len(d) == 0 || slices.Max(d) > mostBits {
			continue
		}
		many++
		l := lens.Of(counts)
		for i := range counts {
			for k := range counts {
				if counts[k] > 0 && counts[i] > counts[k] && l[i] > l[k] {
					t.Fatal(counts, l, i, k)
				}
			}
		}
	}
	if many < 500 {
		t.Error("too few", many)
	}
}

// Of no other lens that are whole are all letters fewer bits.
func TestP20_4_Cheapest(t *testing.T) {
	for n := range 6 * 6 * 6 * 6 {
		counts := []int{1 + n%6, 1 + n/6%6, 1 + n/36%6, 1 + n/216}
		best := min(2*(counts[0]+counts[1]+counts[2]+counts[3]), unlike(counts))
		if got := lens.Cost(counts, lens.Of(counts)); got != best {
			t.Error(counts, got, best)
		}
	}
}

// unlike is how many bits four letters are at least, by lens of which one is 1, one 2, and two are 3.
func unlike(counts []int) int {
	l := backwards(slices.Sorted(slices.Values(counts)))
	return l[0] + 2*l[1] + 3*l[2] + 3*l[3]
}
