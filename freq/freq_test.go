package freq_test

import (
	"math"
	"math/rand"
	"testing"

	"winepress/api"
	"winepress/fen"
	"winepress/freq"
)

// shape is what counts are made by.
type shape struct{ n, step, most int }

var shapes = []shape{
	{1, 1, 1},
	{1, 1024, 1},
	{1, 1024, 1<<16 - 1024},
	{2, 3, 4},
	{2, 1, 2},
	{3, 1, 1<<16 - 1},
	{7, 5, 7},
	{16, 1024, 2000},
	{256, 24, 16384},
	{256, 1024, 256},
	{256, 24, 1<<16 - 24},
}

// wrong is shapes that no counts have.
var wrong = []shape{
	{0, 1, 1}, {-1, 1, 1}, {4097, 1, 5000}, {1 << 32, 1, 1 << 33}, {math.MaxInt, 1, math.MaxInt}, {math.MinInt, 1, 1},
	{2, 0, 4}, {2, -1, 4}, {2, -1, 1<<16 + 1}, {2, 1025, 4}, {2, 1 << 32, 4}, {2, math.MaxInt, 4}, {2, math.MinInt, 4},
	{2, 3, 1}, {2, 3, 0}, {2, 3, -1}, {4096, 1, 4095}, {2, 3, math.MinInt},
	{2, 3, 65536 - 2}, {2, 1, 65536}, {2, 1024, 65536 - 1023}, {2, 1, 1 << 32}, {2, 3, math.MaxInt}, {2, 1024, math.MaxInt},
	{0, 0, 0}, {-1, -1, -1}, {math.MinInt, math.MinInt, math.MinInt}, {math.MaxInt, math.MaxInt, math.MaxInt},
}

// plain is counts as the document tells of them.
type plain struct {
	counts []int
	shape
}

func plainOf(s shape) *plain {
	p := &plain{make([]int, s.n), s}
	for i := range p.counts {
		p.counts[i] = 1
	}
	return p
}

func (p *plain) total() int {
	sum := 0
	for _, count := range p.counts {
		sum += count
	}
	return sum
}

func (p *plain) seen(i int) {
	p.counts[i] += p.step
	for p.total() > p.most {
		for k, count := range p.counts {
			p.counts[k] = count - count/2
		}
	}
}

// same asks for just the counts of a plain one.
func same(t *testing.T, f *freq.Freq, p *plain) {
	t.Helper()
	if f.Total() != p.total() {
		t.Fatal("Total", p.shape, f.Total(), p.total())
	}
	sum := 0
	for i, count := range p.counts {
		if below, own := f.Of(i); below != sum || own != count {
			t.Fatal("Of", p.shape, i, below, own, "not", sum, count)
		}
		for _, v := range []int{sum, sum + count/2, sum + count - 1} {
			if k, ok := f.Find(v); k != i || !ok {
				t.Fatal("Find", p.shape, v, k, ok, "not", i)
			}
		}
		sum += count
	}
	for _, v := range []int{-1, -2, math.MinInt, sum, sum + 1, 1 << 17, math.MaxInt} {
		if k, ok := f.Find(v); k != 0 || ok {
			t.Fatal("Find", p.shape, v, k, ok)
		}
	}
	noLetter(t, f, p.n)
}

// noLetter asks that there is nothing of letters that aren't.
func noLetter(t *testing.T, f *freq.Freq, n int) {
	t.Helper()
	for _, i := range []int{-1, -2, n, n + 1, 1 << 32, math.MaxInt, math.MinInt} {
		if below, own := f.Of(i); below != 0 || own != 0 {
			t.Error("Of", n, i, below, own)
		}
	}
}

func TestP13_1_New(t *testing.T) {
	for _, s := range append(shapes, shape{4096, 1, 4096}, shape{4096, 1024, 1<<16 - 1024}, shape{4096, 1, 1<<16 - 1}) {
		f := freq.New(s.n, s.step, s.most)
		if f == nil {
			t.Fatal(s)
		}
		same(t, f, plainOf(s))
	}
}

func TestP13_1_NewOfWrong(t *testing.T) {
	for _, s := range wrong {
		if freq.New(s.n, s.step, s.most) != nil {
			t.Error(s)
		}
	}
}

func TestP13_2_Example(t *testing.T) {
	f := freq.New(2, 3, 4)
	if e := f.Seen(1); e != api.OK {
		t.Fatal(e)
	}
	if below, own := f.Of(0); below != 0 || own != 1 {
		t.Error(below, own)
	}
	if below, own := f.Of(1); below != 1 || own != 2 || f.Total() != 3 {
		t.Error(below, own, f.Total())
	}
}

// Counts that are most together are left; one more, and they are halved, as often as it takes.
func TestP13_2_Most(t *testing.T) {
	f := freq.New(3, 4, 11)
	for _, c := range []struct {
		seen int
		want []int
	}{
		{0, []int{5, 1, 1}},
		{2, []int{5, 1, 5}}, // 11 are no more than 11
		{1, []int{3, 3, 3}}, // of 5, 5, 5
		{1, []int{2, 4, 2}}, // of 3, 7, 3
		{1, []int{1, 4, 1}}, // of 2, 8, 2
		{1, []int{1, 8, 1}},
		{2, []int{1, 4, 3}}, // of 1, 8, 5
	} {
		f.Seen(c.seen)
		same(t, f, &plain{c.want, shape{3, 4, 11}})
	}
	f = freq.New(2, 1024, 2)
	f.Seen(0)
	same(t, f, &plain{[]int{1, 1}, shape{2, 1024, 2}}) // of 1025, 513, 257, 129, 65, 33, 17, 9, 5, 3, 2
	f = freq.New(2, 1024, 3)
	f.Seen(1)
	same(t, f, &plain{[]int{1, 2}, shape{2, 1024, 3}})
}

func TestP13_2_SeenOfNoLetter(t *testing.T) {
	for _, s := range shapes {
		f := freq.New(s.n, s.step, s.most)
		for _, i := range []int{-1, -2, s.n, s.n + 1, 4097, 1 << 32, math.MaxInt, math.MinInt} {
			if e := f.Seen(i); e != api.ErrRange {
				t.Error(s, i, e)
			}
		}
		same(t, f, plainOf(s))
	}
}

func TestP13_2_LikeThePlainOne(t *testing.T) {
	dice := rand.New(rand.NewSource(1))
	for _, s := range shapes {
		f, p := freq.New(s.n, s.step, s.most), plainOf(s)
		for k := range 400 {
			i := dice.Intn(1 + dice.Intn(s.n)) // the first ones more often
			if e := f.Seen(i); e != api.OK {
				t.Fatal(s, i, e)
			}
			p.seen(i)
			if k%8 == 0 || s.n < 8 {
				same(t, f, p)
			}
		}
		same(t, f, p)
	}
}

func TestP13_2_Nil(t *testing.T) {
	var f *freq.Freq
	for _, i := range []int{0, 1, -1, math.MaxInt, math.MinInt} {
		if below, own := f.Of(i); below != 0 || own != 0 {
			t.Error(i, below, own)
		}
		if k, ok := f.Find(i); k != 0 || ok {
			t.Error(i, k, ok)
		}
		if e := f.Seen(i); e != api.ErrNil {
			t.Error(i, e)
		}
	}
	if f.Total() != 0 {
		t.Error(f.Total())
	}
}

// What no call made ends, at least.
func TestP13_2_NoneMade(t *testing.T) {
	f := &freq.Freq{}
	for _, i := range []int{0, 1, -1, math.MaxInt, math.MinInt} {
		f.Of(i)
		f.Find(i)
		f.Seen(i)
	}
	f.Total()
}

func TestP13_3_NeverNoughtNeverAboveMost(t *testing.T) {
	dice := rand.New(rand.NewSource(2))
	for range 60 {
		s := shape{1 + dice.Intn(40), 1 + dice.Intn(1024), 0}
		s.most = s.n + dice.Intn(2000)
		f := freq.New(s.n, s.step, s.most)
		for range 200 {
			f.Seen(dice.Intn(s.n))
			if f.Total() > s.most {
				t.Fatal(s, f.Total())
			}
			for i := range s.n {
				if _, own := f.Of(i); own < 1 {
					t.Fatal(s, i, own)
				}
			}
		}
	}
}

func TestP13_3_TheSame(t *testing.T) {
	dice := rand.New(rand.NewSource(3))
	a, b, other := freq.New(256, 24, 16384), freq.New(256, 24, 16384), freq.New(256, 24, 16384)
	for range 5000 {
		i := dice.Intn(256)
		a.Seen(i)
		a.Find(i)
		b.Of(i)
		other.Seen(255 - i)
		b.Seen(i)
	}
	for i := range 256 {
		below, own := a.Of(i)
		if beside, alike := b.Of(i); below != beside || own != alike {
			t.Fatal(i)
		}
	}
	if a.Total() != b.Total() {
		t.Error(a.Total(), b.Total())
	}
}

// A Freq's calls are also those of the row of counts that is within it.
func TestP13_2_CallsOfTheRow(t *testing.T) {
	f := freq.New(3, 2, 100)
	f.Seen(1)
	var row interface {
		Len() int
		Get(int) int
		Below(int) int
	} = f
	if row.Len() != 3 || row.Get(1) != 3 || row.Below(2) != 4 {
		t.Error(row.Len(), row.Get(1), row.Below(2))
	}
	var _ interface{ Total() int } = fen.New(3)
}
