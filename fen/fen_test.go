package fen_test

import (
	"math"
	"math/rand"
	"testing"

	"winepress/api"
	"winepress/fen"
)

// wrong is how many counts no row has.
var wrong = []int{0, -1, -2, -4096, 4097, 4098, 8192, 1 << 16, 1<<32 + 1, math.MaxInt, math.MinInt}

// sizes is how many counts rows of the tests have: about powers of two, which places hang together by.
var sizes = []int{1, 2, 3, 4, 5, 7, 8, 9, 15, 16, 17, 100, 255, 256, 257}

// plain is a row of counts as the document tells of it, each asked by itself.
type plain []int

func (p plain) below(i int) int {
	sum := 0
	for k, count := range p {
		if k < i {
			sum += count
		}
	}
	return sum
}

func (p plain) get(i int) int {
	if i < 0 || i >= len(p) {
		return 0
	}
	return p[i]
}

func (p plain) find(v int) (int, bool) {
	sum := 0
	for i, count := range p {
		if sum += count; v >= 0 && sum > v {
			return i, true
		}
	}
	return 0, false
}

func (p plain) add(i, d int) api.Errno {
	if i < 0 || i >= len(p) || d < -p[i] || d > 1<<16-p.below(len(p)) {
		return api.ErrRange
	}
	p[i] += d
	return api.OK
}

func (p plain) halve() {
	for i := range p {
		p[i] = p[i]/2 + p[i]%2
	}
}

// of is a row of just these counts.
func of(t *testing.T, counts ...int) *fen.Tree {
	t.Helper()
	tree := fen.New(len(counts))
	for i, count := range counts {
		if e := tree.Add(i, count); e != api.OK {
			t.Fatal(i, count, e)
		}
	}
	return tree
}

// same asks a row for all that the plain one tells.
func same(t *testing.T, tree *fen.Tree, p plain) {
	t.Helper()
	if tree.Len() != len(p) || tree.Total() != p.below(len(p)) {
		t.Fatal("Len, Total", tree.Len(), tree.Total(), p)
	}
	for _, i := range []int{math.MinInt, -2, -1, len(p), len(p) + 1, 2 * len(p), math.MaxInt} {
		if tree.Get(i) != 0 || tree.Below(i) != p.below(i) {
			t.Fatal("Get, Below", i, tree.Get(i), tree.Below(i), p)
		}
	}
	sum := 0
	for i, count := range p {
		if tree.Get(i) != count || tree.Below(i) != sum {
			t.Fatal("Get, Below", i, tree.Get(i), tree.Below(i), p)
		}
		sum += count
	}
	begins := 0
	for _, count := range p {
		for v := begins - 2; v <= begins+2; v++ {
			finds(t, tree, p, v)
		}
		begins += count
	}
	for _, v := range []int{math.MinInt, -1, sum - 1, sum, sum + 1, 1<<16 + 1, math.MaxInt} {
		finds(t, tree, p, v)
	}
}

func finds(t *testing.T, tree *fen.Tree, p plain, v int) {
	t.Helper()
	got, ok := tree.Find(v)
	if want, is := p.find(v); got != want || ok != is {
		t.Fatal("Find", v, got, ok, "not", want, is, p)
	}
}

func TestP12_1_New(t *testing.T) {
	for _, n := range append(sizes, 4095, 4096) {
		tree := fen.New(n)
		if tree == nil || tree.Len() != n {
			t.Fatal(n)
		}
		same(t, tree, make(plain, n))
	}
}

func TestP12_1_NewOfWrong(t *testing.T) {
	for _, n := range wrong {
		if fen.New(n) != nil {
			t.Error(n)
		}
	}
}

func TestP12_1_Add(t *testing.T) {
	tree := of(t, 2, 0, 5)
	same(t, tree, plain{2, 0, 5})
	for _, c := range []struct{ i, d int }{{0, 3}, {2, -5}, {1, 0}, {1, 7}, {1, -6}, {0, -5}} {
		if e := tree.Add(c.i, c.d); e != api.OK {
			t.Error(c, e)
		}
	}
	same(t, tree, plain{0, 1, 0})
}

func TestP12_1_AddOfNoCount(t *testing.T) {
	for _, n := range append(sizes, 4096) {
		tree := fen.New(n)
		for _, i := range []int{-1, -2, n, n + 1, n + 2, 4097, 1 << 32, math.MaxInt, math.MinInt} {
			if i >= 0 && i < n {
				continue
			}
			for _, d := range []int{0, 1, -1, 1 << 16, math.MaxInt, math.MinInt} {
				if e := tree.Add(i, d); e != api.ErrRange {
					t.Error(n, i, d, e)
				}
			}
		}
		same(t, tree, make(plain, n))
	}
}

func TestP12_1_AddBelowNought(t *testing.T) {
	p := plain{3, 0, 7, 1, 1}
	tree := of(t, p...)
	for i, count := range p {
		for _, more := range []int{1, 2, 100, 1 << 32} {
			if e := tree.Add(i, -count-more); e != api.ErrRange {
				t.Error(i, -count-more, e)
			}
		}
		if e := tree.Add(i, math.MinInt); e != api.ErrRange {
			t.Error(i, e)
		}
	}
	same(t, tree, p)
	for i, count := range p {
		if e := tree.Add(i, -count); e != api.OK {
			t.Error(i, e)
		}
	}
	same(t, tree, make(plain, 5))
}

func TestP12_1_AddAboveMaxTotal(t *testing.T) {
	p := plain{3, 0, 65536 - 10, 0, 2}
	tree := of(t, p...)
	for i := range p {
		for _, d := range []int{6, 7, 1 << 16, 1 << 32, math.MaxInt - 1, math.MaxInt} {
			if e := tree.Add(i, d); e != api.ErrRange {
				t.Error(i, d, e)
			}
		}
	}
	same(t, tree, p)
	if e := tree.Add(1, 5); e != api.OK || tree.Total() != api.MaxTotal {
		t.Error(e, tree.Total())
	}
	p[1] = 5
	for i := range p {
		if e := tree.Add(i, 1); e != api.ErrRange {
			t.Error(i, e)
		}
		if e := tree.Add(i, 0); e != api.OK {
			t.Error(i, e)
		}
	}
	same(t, tree, p)
	if e := tree.Add(2, -1); e != api.OK {
		t.Error(e)
	}
	if e := tree.Add(0, 1); e != api.OK || tree.Total() != 1<<16 {
		t.Error(e, tree.Total())
	}
}

func TestP12_1_MaxTotalAtOnce(t *testing.T) {
	for _, n := range []int{1, 2, 3, 4096} {
		for _, i := range []int{0, n / 2, n - 1} {
			tree := fen.New(n)
			if e := tree.Add(i, api.MaxTotal+1); e != api.ErrRange {
				t.Error(n, i, e)
			}
			if e := tree.Add(i, api.MaxTotal); e != api.OK || tree.Get(i) != 65536 || tree.Total() != 65536 {
				t.Error(n, i, e)
			}
			if k, ok := tree.Find(65535); k != i || !ok {
				t.Error(n, i, k, ok)
			}
		}
	}
}

func TestP12_2_Example(t *testing.T) {
	tree := of(t, 2, 0, 5)
	if tree.Below(2) != 2 || tree.Total() != 7 {
		t.Error(tree.Below(2), tree.Total())
	}
	if i, ok := tree.Find(2); i != 2 || !ok {
		t.Error(i, ok)
	}
}

func TestP12_2_Find(t *testing.T) {
	tree := of(t, 0, 2, 0, 0, 5, 1, 0)
	want := []int{1, 1, 4, 4, 4, 4, 4, 5}
	for v, k := range want {
		if i, ok := tree.Find(v); i != k || !ok {
			t.Error(v, i, ok)
		}
	}
	for _, v := range []int{-1, -8, math.MinInt, 8, 9, 1 << 16, math.MaxInt} {
		if i, ok := tree.Find(v); i != 0 || ok {
			t.Error(v, i, ok)
		}
	}
}

func TestP12_2_Below(t *testing.T) {
	tree := of(t, 4, 0, 2, 9)
	for i, want := range []int{0, 4, 4, 6, 15} {
		if got := tree.Below(i); got != want {
			t.Error(i, got)
		}
	}
	for _, i := range []int{-1, -5, math.MinInt} {
		if got := tree.Below(i); got != 0 {
			t.Error(i, got)
		}
	}
	for _, i := range []int{5, 8, 4096, math.MaxInt} {
		if got := tree.Below(i); got != 15 {
			t.Error(i, got)
		}
	}
}

func TestP12_2_GetOfNone(t *testing.T) {
	tree := of(t, 4, 3)
	for _, i := range []int{-1, -2, 2, 3, 1 << 32, math.MaxInt, math.MinInt} {
		if got := tree.Get(i); got != 0 {
			t.Error(i, got)
		}
	}
}

func TestP12_2_LikeThePlainOne(t *testing.T) {
	dice := rand.New(rand.NewSource(1))
	for _, n := range sizes {
		tree, p := fen.New(n), make(plain, n)
		for range 60 {
			for range 20 {
				i, d := dice.Intn(n+2)-1, dice.Intn(4000)-1800
				if got, want := tree.Add(i, d), p.add(i, d); got != want {
					t.Fatal(n, i, d, got, want)
				}
			}
			if dice.Intn(8) == 0 {
				tree.Halve()
				p.halve()
			}
			same(t, tree, p)
		}
	}
}

func TestP12_2_Great(t *testing.T) {
	dice := rand.New(rand.NewSource(2))
	for _, n := range []int{4095, 4096} {
		tree, p := fen.New(n), make(plain, n)
		for range 3000 {
			i, d := dice.Intn(n), dice.Intn(40)
			if got, want := tree.Add(i, d), p.add(i, d); got != want {
				t.Fatal(n, i, d, got, want)
			}
		}
		sum := 0
		for i, count := range p {
			if tree.Get(i) != count || tree.Below(i) != sum {
				t.Fatal(n, i)
			}
			for v := sum; v < sum+count; v++ {
				if k, ok := tree.Find(v); k != i || !ok {
					t.Fatal(n, v, k, i)
				}
			}
			sum += count
		}
	}
}

func TestP12_3_Halve(t *testing.T) {
	tree := of(t, 0, 1, 2, 3, 4, 5, 255, 256, 1000)
	for _, p := range []plain{
		{0, 1, 1, 2, 2, 3, 128, 128, 500},
		{0, 1, 1, 1, 1, 2, 64, 64, 250},
		{0, 1, 1, 1, 1, 1, 32, 32, 125},
		{0, 1, 1, 1, 1, 1, 16, 16, 63},
	} {
		tree.Halve()
		same(t, tree, p)
	}
}

func TestP12_3_HalveOfAll(t *testing.T) {
	for _, n := range append(sizes, 4096) {
		tree := fen.New(n)
		tree.Halve()
		if tree.Total() != 0 {
			t.Error(n)
		}
		p := make(plain, n)
		for i := range p {
			p[i] = i % 16
			if e := tree.Add(i, p[i]); e != api.OK {
				t.Fatal(n, i, e)
			}
		}
		tree.Halve()
		p.halve()
		if tree.Total() != p.below(n) || tree.Len() != n {
			t.Error(n, tree.Total(), tree.Len())
		}
		for i, count := range p {
			if tree.Get(i) != count {
				t.Fatal(n, i, tree.Get(i))
			}
		}
	}
}

// There is room again, behind Halve.
func TestP12_3_AddBehind(t *testing.T) {
	tree := of(t, 1<<16-3, 3)
	if e := tree.Add(0, 1); e != api.ErrRange {
		t.Error(e)
	}
	tree.Halve()
	same(t, tree, plain{32767, 2})
	if e := tree.Add(1, 32768); e != api.ErrRange {
		t.Error(e)
	}
	if e := tree.Add(1, 32767); e != api.OK {
		t.Error(e)
	}
	same(t, tree, plain{32767, 32769})
}

func TestP12_3_Nil(t *testing.T) {
	var tree *fen.Tree
	for _, i := range []int{0, 1, -1, math.MaxInt, math.MinInt} {
		if tree.Get(i) != 0 || tree.Below(i) != 0 || tree.Add(i, i) != api.ErrNil || tree.Add(i, 0) != api.ErrNil {
			t.Error(i)
		}
		if k, ok := tree.Find(i); k != 0 || ok {
			t.Error(i, k, ok)
		}
	}
	tree.Halve()
	if tree.Len() != 0 || tree.Total() != 0 {
		t.Error(tree.Len(), tree.Total())
	}
}

// What no call made ends, at least.
func TestP12_3_NoneMade(t *testing.T) {
	tree := &fen.Tree{}
	for _, i := range []int{0, 1, -1, math.MaxInt, math.MinInt} {
		tree.Get(i)
		tree.Below(i)
		tree.Find(i)
		tree.Add(i, 1)
	}
	tree.Halve()
	tree.Len()
	tree.Total()
}

func TestP12_4_FindIsWithin(t *testing.T) {
	dice := rand.New(rand.NewSource(3))
	for _, n := range sizes {
		tree := fen.New(n)
		for range n {
			tree.Add(dice.Intn(n), dice.Intn(9))
		}
		for v := range tree.Total() {
			i, ok := tree.Find(v)
			if !ok || tree.Below(i) > v || v >= tree.Below(i)+tree.Get(i) {
				t.Error(n, v, i, ok)
			}
		}
	}
}

// Two rows have nothing of each other.
func TestP12_1_NothingIsShared(t *testing.T) {
	a, b := of(t, 1, 2, 3), of(t, 1, 2, 3)
	a.Add(1, 40)
	a.Halve()
	same(t, b, plain{1, 2, 3})
}
