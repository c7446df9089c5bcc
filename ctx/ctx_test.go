package ctx_test

import (
	"math"
	"math/rand"
	"testing"

	"winepress/ctx"
)

// wrong is how many bits no bank has.
var wrong = []int{0, -1, -2, -16, 17, 18, 32, 33, 64, 1 << 16, 1<<32 + 1, 1<<32 + 9, math.MaxInt, math.MinInt}

// ones is bits that are not 0.
var ones = []int{1, 2, 3, -1, -2, 256, 1 << 32, math.MaxInt, math.MinInt}

// keys is a few that lie at the ends, and about them.
var keys = []uint32{0, 1, 2, 7, 8, 255, 256, 511, 65535, 65536, 65537, 1 << 24, 1<<31 - 1, 1 << 31, 1<<31 + 1, math.MaxUint32 - 1, math.MaxUint32}

// place is a key's cell by the document's words.
func place(key uint32, bits int) int {
	n := uint64(key) * 2654435761 % (1 << 32)
	for range 32 - bits {
		n /= 2
	}
	return int(n)
}

// plain is chances of cells by the document's words.
type plain struct {
	bits  int
	cells map[int]int
}

func plainOf(bits int) *plain {
	return &plain{bits, map[int]int{}}
}

func (p *plain) p(key uint32) int {
	if chance, ok := p.cells[place(key, p.bits)]; ok {
		return chance
	}
	return 32768
}

func (p *plain) seen(key uint32, bit int) {
	chance := p.p(key)
	if bit != 0 {
		chance += (65536 - chance) / 16
	} else {
		chance -= chance / 16
	}
	p.cells[place(key, p.bits)] = min(max(chance, 32), 65504)
}

// eachCell is a key for each cell of a bank.
func eachCell(t *testing.T, bits int) []uint32 {
	t.Helper()
	l := make([]uint32, 1<<bits)
	there := make([]bool, len(l))
	left := len(l)
	for key := uint32(0); left > 0; key++ {
		if key == 1<<24 {
			t.Fatal("cells without a key", bits, left)
		}
		if i := ctx.Place(key, bits); !there[i] {
			l[i], there[i] = key, true
			left--
		}
	}
	return l
}

// is asks for a key's chance.
func is(t *testing.T, b *ctx.Bank, key uint32, want int) {
	t.Helper()
	if got := b.P(key); got != want {
		t.Fatalf("P of %d: %d, not %d", key, got, want)
	}
}

func TestP23_1_New(t *testing.T) {
	for bits := 1; bits <= 16; bits++ {
		b := ctx.New(bits)
		if b == nil {
			t.Fatal(bits)
		}
		for _, key := range append(eachCell(t, bits), keys...) {
			is(t, b, key, 32768)
		}
	}
}

func TestP23_1_NewOfWrong(t *testing.T) {
	for _, bits := range wrong {
		if ctx.New(bits) != nil {
			t.Error(bits)
		}
	}
}

func TestP23_1_Place(t *testing.T) {
	for _, c := range []struct {
		key   uint32
		bits  int
		place int
	}{
		{0, 1, 0}, {0, 8, 0}, {0, 16, 0},
		{1, 1, 1}, {1, 8, 158}, {1, 9, 316}, {1, 11, 1265}, {1, 13, 5062}, {1, 16, 40503},
		{2, 1, 0}, {2, 8, 60}, {2, 9, 120}, {2, 11, 483}, {2, 13, 1933}, {2, 16, 15470},
		{7, 1, 0}, {7, 8, 83}, {7, 9, 167}, {7, 11, 668}, {7, 13, 2672}, {7, 16, 21380},
		{65536, 1, 0}, {65536, 8, 121}, {65536, 9, 243}, {65536, 16, 31153},
		{1 << 31, 1, 1}, {1 << 31, 8, 128}, {1 << 31, 16, 32768},
		{math.MaxUint32, 1, 0}, {math.MaxUint32, 8, 97}, {math.MaxUint32, 13, 3129}, {math.MaxUint32, 16, 25032},
		{12345678, 1, 1}, {12345678, 9, 303}, {12345678, 16, 38911},
	} {
		if got := ctx.Place(c.key, c.bits); got != c.place {
			t.Error(c, got)
		}
	}
}

func TestP23_1_PlaceByTheWords(t *testing.T) {
	dice := rand.New(rand.NewSource(1))
	for bits := 1; bits <= 16; bits++ {
		all := keys
		for key := range uint32(3000) {
			all = append(all, key, dice.Uint32())
		}
		for _, key := range all {
			got := ctx.Place(key, bits)
			if got != place(key, bits) || got < 0 || got >= 1<<bits {
				t.Fatal(key, bits, got)
			}
		}
	}
}

func TestP23_1_PlaceOfWrong(t *testing.T) {
	for _, bits := range wrong {
		for _, key := range keys {
			if got := ctx.Place(key, bits); got != 0 {
				t.Error(key, bits, got)
			}
		}
	}
}

// There are 2^bits cells, and each has a chance of its own.
func TestP23_1_ManyCells(t *testing.T) {
	for bits := 1; bits <= 16; bits++ {
		b, p := ctx.New(bits), plainOf(bits)
		all := eachCell(t, bits)
		for i, key := range all {
			for range i % 7 {
				b.Seen(key, i%2)
				p.seen(key, i%2)
			}
		}
		for _, key := range all {
			is(t, b, key, p.p(key))
		}
	}
}

func TestP23_2_Example(t *testing.T) {
	for bits := 1; bits <= 16; bits++ {
		b := ctx.New(bits)
		b.Seen(7, 1)
		is(t, b, 7, 34816)
	}
}

// Numbers that are reckoned by hand: what is not whole is rounded down, both ways.
func TestP23_2_Seen(t *testing.T) {
	for _, c := range []struct {
		bits []int
		want []int
	}{
		{[]int{1, 1, 1, 1}, []int{34816, 36736, 38536, 40223}},
		{[]int{0, 0, 0, 0, 0}, []int{30720, 28800, 27000, 25313, 23731}},
		{[]int{1, 0, 1, 0}, []int{34816, 32640, 34696, 32528}},
		{[]int{0, 1, 1, 0}, []int{30720, 32896, 34936, 32753}},
	} {
		b := ctx.New(4)
		for i, bit := range c.bits {
			b.Seen(9, bit)
			is(t, b, 9, c.want[i])
		}
	}
}

// Whatever is not 0 is a bit 1.
func TestP23_2_NotNought(t *testing.T) {
	for _, bit := range ones {
		b := ctx.New(8)
		b.Seen(3, bit)
		is(t, b, 3, 34816)
		b.Seen(3, 0)
		is(t, b, 3, 32640)
		b.Seen(3, bit)
		is(t, b, 3, 34696)
	}
}

// The last steps ahead of the ends: there a chance is held.
func TestP23_2_Held(t *testing.T) {
	b, p := ctx.New(1), plainOf(1)
	for range 300 {
		b.Seen(0, 1)
		p.seen(0, 1)
		is(t, b, 0, p.p(0))
	}
	is(t, b, 0, 65504)
	b.Seen(0, 1)
	is(t, b, 0, 65504)
	b.Seen(0, 0)
	is(t, b, 0, 65504-4094)
	for range 400 {
		b.Seen(0, 0)
	}
	is(t, b, 0, 32)
	b.Seen(0, 0)
	is(t, b, 0, 32)
	b.Seen(0, 1)
	is(t, b, 0, 32+4094)
}

func TestP23_2_LikeThePlainOne(t *testing.T) {
	dice := rand.New(rand.NewSource(2))
	for bits := 1; bits <= 16; bits++ {
		for _, of := range []int{2, 3, 20} { // one of so many bits is unlike the others
			b, p := ctx.New(bits), plainOf(bits)
			for range 4000 {
				key := keys[dice.Intn(len(keys))]
				if dice.Intn(2) == 0 {
					key = dice.Uint32()
				}
				bit := (dice.Intn(of) + of - 1) / of
				if key%2 == 0 {
					bit = 1 - bit
				}
				is(t, b, key, p.p(key))
				b.Seen(key, bit)
				p.seen(key, bit)
				is(t, b, key, p.p(key))
			}
			for _, key := range keys {
				is(t, b, key, p.p(key))
			}
		}
	}
}

func TestP23_2_Nil(t *testing.T) {
	var b *ctx.Bank
	for _, key := range keys {
		b.Seen(key, 1)
		b.Seen(key, 0)
		is(t, b, key, 0)
	}
}

// What no call made ends, at least.
func TestP23_2_NoneMade(t *testing.T) {
	b := &ctx.Bank{}
	for _, key := range keys {
		b.Seen(key, 1)
		b.Seen(key, 0)
		b.P(key)
	}
}

// To be asked changes nothing.
func TestP23_2_Asked(t *testing.T) {
	b := ctx.New(6)
	for _, key := range append(keys, keys...) {
		is(t, b, key, 32768)
	}
	b.Seen(5, 0)
	for range 5 {
		is(t, b, 5, 30720)
	}
}

func TestP23_3_AlwaysAChance(t *testing.T) {
	dice := rand.New(rand.NewSource(3))
	for _, bits := range []int{1, 2, 9, 16} {
		b := ctx.New(bits)
		for round := range 60 {
			bit := 0
			for range 200 {
				switch round % 3 {
				case 0:
					bit = 1
				case 1:
					bit = 0
				default:
					bit = dice.Intn(2)
				}
				key := keys[dice.Intn(len(keys))]
				b.Seen(key, bit)
				if p := b.P(key); p < 32 || p > 65504 {
					t.Fatal(bits, key, p)
				}
			}
		}
	}
}

func TestP23_4_UnlikeCells(t *testing.T) {
	for bits := 1; bits <= 10; bits++ {
		all := eachCell(t, bits)
		for i := 0; i < len(all); i += 1 + len(all)/16 {
			b := ctx.New(bits)
			b.Seen(all[i], 1)
			for k, key := range all {
				if k == i {
					is(t, b, key, 34816)
				} else {
					is(t, b, key, 32768)
				}
			}
		}
	}
}

// Keys of one cell know all of each other.
func TestP23_4_OneCell(t *testing.T) {
	for bits := 1; bits <= 16; bits++ {
		b := ctx.New(bits)
		b.Seen(0, 0)
		same, other := 0, 0
		for key := range uint32(1 << 18) {
			if place(key, bits) == 0 {
				is(t, b, key, 30720)
				same++
			} else {
				is(t, b, key, 32768)
				other++
			}
		}
		if same < 2 || other < 2 {
			t.Error(bits, same, other)
		}
	}
}

// Two banks have nothing of each other.
func TestP23_4_TwoBanks(t *testing.T) {
	a, b := ctx.New(9), ctx.New(9)
	for _, key := range keys {
		a.Seen(key, 1)
		is(t, b, key, 32768)
	}
	for range 10 {
		b.Seen(7, 0)
	}
	c := ctx.New(9)
	for _, key := range keys {
		is(t, c, key, 32768)
	}
}
