package model_test

import (
	"math"
	"math/rand"
	"testing"

	"winepress/model"
)

// ones is bits that are not 0.
var ones = []int{1, 2, 3, -1, -2, 256, 1 << 32, math.MaxInt, math.MinInt}

// plain is a model by the document's words: where it is, it tells by all the bits that it saw.
type plain struct {
	seenBits []int
	cells    [3]map[int]int
	weights  [3]int
}

func plainNew() *plain {
	return &plain{cells: [3]map[int]int{{}, {}, {}}, weights: [3]int{64, 64, 64}}
}

// byteOf is eight bits, the highest first.
func byteOf(bits []int) int {
	n := 0
	for i, place := range []int{128, 64, 32, 16, 8, 4, 2, 1} {
		if bits[i] != 0 {
			n += place
		}
	}
	return n
}

func (p *plain) where() (node, last, ahead int) {
	whole := len(p.seenBits) / 8 * 8
	node = 1
	for _, bit := range p.seenBits[whole:] {
		node = 2 * node
		if bit != 0 {
			node++
		}
	}
	if whole >= 8 {
		last = byteOf(p.seenBits[whole-8 : whole])
	}
	if whole >= 16 {
		ahead = byteOf(p.seenBits[whole-16 : whole-8])
	}
	return node, last, ahead
}

// places is the cell of each bank.
func (p *plain) places() [3]int {
	node, last, ahead := p.where()
	return [3]int{
		place(node, 9),
		place(65536+256*last+node, 11),
		place(16777216+65536*ahead+256*last+node, 13),
	}
}

func place(key, bits int) int {
	n := uint64(key) * 2654435761 % (1 << 32)
	for range 32 - bits {
		n /= 2
	}
	return int(n)
}

func (p *plain) chances() [3]int {
	var l [3]int
	for i, cell := range p.places() {
		l[i] = 32768
		if chance, ok := p.cells[i][cell]; ok {
			l[i] = chance
		}
	}
	return l
}

func (p *plain) p() int {
	sum, all := 0, 0
	for i, chance := range p.chances() {
		sum += chance * p.weights[i]
		all += p.weights[i]
	}
	return held(sum/all, 32, 65504)
}

func held(n, low, high int) int {
	switch {
	case n < low:
		return low
	case n > high:
		return high
	}
	return n
}

// away is how far two numbers are from each other.
func away(a, b int) int {
	if a < b {
		return b - a
	}
	return a - b
}

func (p *plain) seen(bit int) {
	target := 0
	if bit != 0 {
		target = 65536
	}
	mixed, places, chances := p.p(), p.places(), p.chances()
	for i, chance := range chances {
		switch {
		case away(chance, target) < away(mixed, target):
			p.weights[i] = held(p.weights[i]+1, 1, 255)
		case away(chance, target) > away(mixed, target):
			p.weights[i] = held(p.weights[i]-1, 1, 255)
		}
	}
	for i, chance := range chances {
		if bit != 0 {
			chance += (65536 - chance) / 16
		} else {
			chance -= chance / 16
		}
		p.cells[i][places[i]] = held(chance, 32, 65504)
	}
	p.seenBits = append(p.seenBits, bit)
}

// bitsOf is a byte's bits, the highest first.
func bitsOf(letter int) []int {
	l := make([]int, 8)
	for i := range l {
		l[i] = letter >> (7 - i) & 1
	}
	return l
}

// show lets a model see bytes.
func show(m *model.Model, letters ...int) {
	for _, letter := range letters {
		for _, bit := range bitsOf(letter) {
			m.Seen(bit)
		}
	}
}

// is asks for where a model is.
func is(t *testing.T, m *model.Model, node, last, ahead int) {
	t.Helper()
	if a, b, c := m.Where(); a != node || b != last || c != ahead {
		t.Fatalf("Where %d, %d, %d, not %d, %d, %d", a, b, c, node, last, ahead)
	}
}

// tells asks for a chance.
func tells(t *testing.T, m *model.Model, want int) {
	t.Helper()
	if got := m.P(); got != want {
		a, b, c := m.Where()
		t.Fatalf("P at %d, %d, %d: %d, not %d", a, b, c, got, want)
	}
}

// rows is bytes of many kinds.
func rows(dice *rand.Rand, n int) map[string][]int {
	kinds := map[string]func(i int) int{
		"all alike":  func(int) int { return 200 },
		"any":        func(int) int { return dice.Intn(256) },
		"few":        func(int) int { return 97 + dice.Intn(3) },
		"mostly one": func(int) int { return 7 * (dice.Intn(20) / 19) },
		"by turns":   func(i int) int { return []int{3, 250, 3, 77}[i%4] },
		"rising":     func(i int) int { return i % 256 },
		"a turn":     func(i int) int { return []int{0, 255}[i*2/n] },
		"words":      func(i int) int { return []int{dice.Intn(256), i >> 6 & 255, 0, 0}[i%4] },
	}
	all := map[string][]int{}
	for name, kind := range kinds {
		l := make([]int, n)
		for i := range l {
			l[i] = kind(i)
		}
		all[name] = l
	}
	return all
}

func TestP25_1_New(t *testing.T) {
	m := model.New()
	is(t, m, 1, 0, 0)
	tells(t, m, 32768)
}

func TestP25_1_Example(t *testing.T) {
	m := model.New()
	tells(t, m, 32768)
	for _, bit := range []int{0, 1, 0, 0, 0, 0, 0, 1} {
		m.Seen(bit)
	}
	is(t, m, 1, 65, 0)
}

func TestP25_1_WhereBitByBit(t *testing.T) {
	m := model.New()
	for _, step := range []struct{ bit, node, last, ahead int }{
		{1, 3, 0, 0}, {0, 6, 0, 0}, {1, 13, 0, 0}, {1, 27, 0, 0}, {0, 54, 0, 0}, {0, 108, 0, 0}, {1, 217, 0, 0}, {0, 1, 178, 0},
		{0, 2, 178, 0}, {0, 4, 178, 0}, {0, 8, 178, 0}, {0, 16, 178, 0}, {0, 32, 178, 0}, {0, 64, 178, 0}, {0, 128, 178, 0}, {1, 1, 1, 178},
		{1, 3, 1, 178}, {1, 7, 1, 178}, {1, 15, 1, 178}, {1, 31, 1, 178}, {1, 63, 1, 178}, {1, 127, 1, 178}, {1, 255, 1, 178}, {1, 1, 255, 1},
		{0, 2, 255, 1}, {0, 4, 255, 1}, {0, 8, 255, 1}, {0, 16, 255, 1}, {0, 32, 255, 1}, {0, 64, 255, 1}, {0, 128, 255, 1}, {0, 1, 0, 255},
	} {
		m.Seen(step.bit)
		is(t, m, step.node, step.last, step.ahead)
	}
}

// Numbers that are reckoned by hand: what each bank was told, and what is mixed of it.
func TestP25_1_P(t *testing.T) {
	m := model.New()
	show(m, 0)
	is(t, m, 1, 0, 0)
	tells(t, m, 30720) // all three saw one 0 here: 32768 less 2048
	m.Seen(1)
	tells(t, m, 32768) // nobody was here
	m = model.New()
	show(m, 1)
	is(t, m, 1, 1, 0)
	tells(t, m, 32085) // of 30720, 32768 and 32768 a third
	m.Seen(1)          // the first one was further away than that: it weighs 63 now, the others 65
	for range 7 {
		m.Seen(0)
	}
	is(t, m, 1, 128, 1)
	tells(t, m, 32809) // of 32896, 32768 and 32768, by those weights
}

// The mixer has seen what the banks told ahead of their learning, not behind it.
func TestP25_1_MixerFirst(t *testing.T) {
	p, m := plainNew(), model.New()
	for i := range 400 {
		bit := i * i / 7 % 3 % 2
		m.Seen(bit)
		p.seen(bit)
		tells(t, m, p.p())
	}
	if p.weights == [3]int{64, 64, 64} {
		t.Error("no weight has changed")
	}
}

func TestP25_1_LikeThePlainOne(t *testing.T) {
	for name, letters := range rows(rand.New(rand.NewSource(1)), 400) {
		m, p := model.New(), plainNew()
		for _, letter := range letters {
			for _, bit := range bitsOf(letter) {
				tells(t, m, p.p())
				m.Seen(bit)
				p.seen(bit)
				node, last, ahead := p.where()
				is(t, m, node, last, ahead)
			}
		}
		if p.weights == [3]int{64, 64, 64} && name != "all alike" {
			t.Error(name, "no weight has changed")
		}
	}
}

// Whatever is not 0 is a bit 1.
func TestP25_1_NotNought(t *testing.T) {
	dice := rand.New(rand.NewSource(2))
	for _, one := range ones {
		m, p := model.New(), plainNew()
		for range 500 {
			bit := dice.Intn(3) / 2
			p.seen(bit)
			m.Seen(bit * one)
			node, last, ahead := p.where()
			is(t, m, node, last, ahead)
			tells(t, m, p.p())
		}
	}
}

// To be asked changes nothing.
func TestP25_1_Asked(t *testing.T) {
	dice := rand.New(rand.NewSource(3))
	m, p := model.New(), plainNew()
	for range 2000 {
		for range dice.Intn(4) {
			tells(t, m, p.p())
			node, last, ahead := p.where()
			is(t, m, node, last, ahead)
		}
		bit := dice.Intn(4) / 3
		m.Seen(bit)
		p.seen(bit)
	}
}

// Two models have nothing of each other: neither banks, nor a mixer, nor a place.
func TestP25_1_TwoModels(t *testing.T) {
	a, b := model.New(), model.New()
	show(a, 1, 2, 3, 1, 2, 3, 1, 2, 3)
	a.Seen(1)
	is(t, b, 1, 0, 0)
	tells(t, b, 32768)
	is(t, model.New(), 1, 0, 0)
	tells(t, model.New(), 32768)
	p := plainNew()
	for _, letter := range []int{9, 9, 1, 2, 3, 0, 255} {
		for _, bit := range bitsOf(letter) {
			a.Seen(1 - bit)
			b.Seen(bit)
			p.seen(bit)
			tells(t, b, p.p())
		}
	}
}

func TestP25_1_Nil(t *testing.T) {
	var m *model.Model
	for _, bit := range append([]int{0}, ones...) {
		tells(t, m, 0)
		is(t, m, 0, 0, 0)
		m.Seen(bit)
	}
	tells(t, m, 0)
	is(t, m, 0, 0, 0)
}

// What no call made ends, at least.
func TestP25_1_NoneMade(t *testing.T) {
	m := &model.Model{}
	for i := range 100 {
		m.P()
		m.Where()
		m.Seen(i % 3)
	}
}

func TestP25_2_BitsLeadToTheByte(t *testing.T) {
	m := model.New()
	last := 0
	for i := range 256 {
		for _, letter := range []int{i, 255 - i, i * 37 % 256} {
			show(m, letter)
			is(t, m, 1, letter, last)
			last = letter
		}
	}
}

// Each beginning of a byte has a node of its own.
func TestP25_2_Nodes(t *testing.T) {
	there := map[int]bool{}
	for letter := range 256 {
		m := model.New()
		for _, bit := range bitsOf(letter) {
			node, _, _ := m.Where()
			there[node] = true
			m.Seen(bit)
		}
	}
	for node := 1; node < 256; node++ {
		if !there[node] {
			t.Error(node)
		}
	}
	if len(there) != 255 {
		t.Error(len(there))
	}
}

func TestP25_2_TellTheSame(t *testing.T) {
	for _, letters := range rows(rand.New(rand.NewSource(4)), 600) {
		a, b := model.New(), model.New()
		for _, letter := range letters {
			for _, bit := range bitsOf(letter) {
				tells(t, b, a.P())
				a.Seen(bit)
				b.Seen(bit)
				node, last, ahead := a.Where()
				is(t, b, node, last, ahead)
			}
		}
		tells(t, b, a.P())
	}
}

func TestP25_3_AlwaysTheSame(t *testing.T) {
	for letter := range 256 {
		m := model.New()
		for i := range 200 {
			for _, bit := range bitsOf(letter) {
				p := m.P()
				if i >= 30 && bit == 1 && p < 40000 || i >= 30 && bit == 0 && p > 25536 {
					t.Fatalf("byte %d of all %d: %d of a bit %d", i+1, letter, p, bit)
				}
				m.Seen(bit)
			}
		}
	}
}

// What is told is never sure, whatever was seen.
func TestP25_3_NeverSure(t *testing.T) {
	for _, letter := range []int{0, 255, 85} {
		m := model.New()
		for range 3000 {
			for _, bit := range bitsOf(letter) {
				if p := m.P(); p < 32 || p > 65504 {
					t.Fatal(letter, p)
				}
				m.Seen(bit)
			}
		}
	}
}
