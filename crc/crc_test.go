package crc_test

import (
	"bytes"
	"hash/crc32"
	"math"
	"math/rand"
	"testing"

	"winepress/crc"
)

// moved is what so many steps make of a register, one by one.
func moved(r uint32, steps int) uint32 {
	for range steps {
		low := r & 1
		r >>= 1
		if low == 1 {
			r ^= 0xEDB88320
		}
	}
	return r
}

// summed is the sum of bytes, as the chapter tells it, without a table.
func summed(b []byte) uint32 {
	r := uint32(0xFFFFFFFF)
	for _, c := range b {
		r = moved(r^uint32(c), 8)
	}
	return ^r
}

// thrown is up to most bytes by chance.
func thrown(dice *rand.Rand, most int) []byte {
	b := make([]byte, dice.Intn(most+1))
	dice.Read(b)
	return b
}

var known = []struct {
	text string
	sum  uint32
}{
	{"", 0},
	{"a", 0xE8B7BE43},
	{"abc", 0x352441C2},
	{"123456789", 0xCBF43926},
	{"\x00", 0xD202EF8D},
	{"\x00\x00\x00\x00", 0x2144DF1C},
	{"\xff\xff\xff\xff", 0xFFFFFFFF},
	{"The quick brown fox jumps over the lazy dog", 0x414FA339},
}

func TestP3_1_Make(t *testing.T) {
	table := crc.Make()
	if len(table) != 256 {
		t.Fatal(len(table))
	}
	for c, r := range table {
		if want := moved(uint32(c), 8); r != want {
			t.Errorf("%d: %x, not %x", c, r, want)
		}
	}
	if table[1] != 0x77073096 || table[128] != 0xEDB88320 || table[255] != 0x2D02EF8D {
		t.Errorf("%x, %x, %x", table[1], table[128], table[255])
	}
}

func TestP3_1_MakeIsNew(t *testing.T) {
	one := crc.Make()
	clear(one[:])
	two := crc.Make()
	if one == two || *one == *two {
		t.Error("two tables share their memory")
	}
	if sum := two.Of([]byte("123456789")); sum != 0xCBF43926 {
		t.Errorf("%x", sum)
	}
}

func TestP3_1_Of(t *testing.T) {
	table := crc.Make()
	for _, c := range known {
		if sum := table.Of([]byte(c.text)); sum != c.sum {
			t.Errorf("%q: %x, not %x", c.text, sum, c.sum)
		}
	}
	if sum := table.Of(nil); sum != 0 {
		t.Errorf("%x", sum)
	}
	dice := rand.New(rand.NewSource(1))
	for range 500 {
		b := thrown(dice, 300)
		if sum := table.Of(b); sum != summed(b) || sum != crc32.ChecksumIEEE(b) {
			t.Fatalf("%v: %x", b, sum)
		}
	}
}

func TestP3_1_OfEachByte(t *testing.T) {
	table := crc.Make()
	for c := range 256 {
		b := []byte{byte(c)}
		if sum := table.Of(b); sum != summed(b) {
			t.Errorf("%d: %x", c, sum)
		}
	}
}

func TestP3_1_More(t *testing.T) {
	table := crc.Make()
	dice := rand.New(rand.NewSource(2))
	for range 500 {
		a, b := thrown(dice, 40), thrown(dice, 40)
		whole := append(bytes.Clone(a), b...)
		if sum := table.More(summed(a), b); sum != summed(whole) {
			t.Fatalf("%v %v: %x", a, b, sum)
		}
		sum := dice.Uint32() // of whatever bytes have it
		if got := table.More(sum, b); got != crc32.Update(sum, crc32.IEEETable, b) {
			t.Fatalf("%x %v: %x", sum, b, got)
		}
		if got := table.More(sum, nil); got != sum {
			t.Fatalf("%x: %x", sum, got)
		}
	}
}

func TestP3_1_Keeps(t *testing.T) {
	table, room := crc.Make(), []byte("123456789")
	before := *table
	table.Of(room[:5])
	table.More(7, room[:5])
	if *table != before || string(room) != "123456789" {
		t.Error("a sum changes what it is of")
	}
	room[0] = 'x' // what was summed isn't kept
	if sum := table.Of([]byte("123456789")); sum != 0xCBF43926 {
		t.Errorf("%x", sum)
	}
}

func TestP3_1_Nil(t *testing.T) {
	var table *crc.Table
	for _, b := range [][]byte{nil, {}, {1}, []byte("123456789")} {
		if table.Of(b) != 0 || table.More(0, b) != 0 || table.More(5, b) != 0 || table.More(math.MaxUint32, b) != 0 {
			t.Error("a sum of a nil table", b)
		}
	}
}

func TestP3_1_AnotherTableEnds(t *testing.T) {
	table := &crc.Table{}
	table.Of([]byte("123456789"))
	table.More(3, []byte("123456789"))
	for k := range table {
		table[k] = math.MaxUint32
	}
	table.Of([]byte("123456789"))
}

func TestP3_2_Join(t *testing.T) {
	dice := rand.New(rand.NewSource(3))
	for range 500 {
		a, b := thrown(dice, 40), thrown(dice, 300)
		whole := append(bytes.Clone(a), b...)
		if sum := crc.Join(summed(a), summed(b), len(b)); sum != summed(whole) {
			t.Fatalf("%v %v: %x", a, b, sum)
		}
	}
}

func TestP3_2_JoinIsSteps(t *testing.T) {
	dice := rand.New(rand.NewSource(4))
	for n := range 300 {
		a, b := dice.Uint32(), dice.Uint32()
		if sum := crc.Join(a, b, n); sum != moved(a, 8*n)^b {
			t.Fatalf("%x %x %d: %x", a, b, n, sum)
		}
	}
	for k := range 32 { // each bit alone
		a := uint32(1) << k
		if sum := crc.Join(a, 0, 1); sum != moved(a, 8) {
			t.Errorf("%x: %x", a, sum)
		}
		if sum := crc.Join(0, a, 1); sum != a {
			t.Errorf("%x: %x", a, sum)
		}
	}
}

func TestP3_2_JoinOfNone(t *testing.T) {
	for _, n := range []int{0, -1, -2, -8, -256, math.MinInt32, math.MinInt + 1, math.MinInt} {
		for _, c := range [][2]uint32{{0, 0}, {0xCBF43926, 0}, {0, 5}, {0xCBF43926, 0x352441C2}, {math.MaxUint32, math.MaxUint32}} {
			if sum := crc.Join(c[0], c[1], n); sum != c[0]^c[1] {
				t.Errorf("%x %d: %x", c, n, sum)
			}
		}
	}
}

// Behind 2^32 - 1 steps a register is what it was: that tells Join of more bytes than one can go through.
func TestP3_2_JoinOfMany(t *testing.T) {
	const round = 1<<32 - 1
	dice := rand.New(rand.NewSource(5))
	for _, n := range []int{round, round + 1, round * 2, round*8 + 77, 1 << 40, 1 << 62, math.MaxInt - 1, math.MaxInt} {
		a, b := dice.Uint32(), dice.Uint32()
		if sum := crc.Join(a, b, n); sum != crc.Join(a, b, n%round) {
			t.Errorf("%d: %x", n, sum)
		}
	}
	a := dice.Uint32()
	if crc.Join(a, 0, round) != a || crc.Join(a, 0, round*3+9) != moved(a, 72) || crc.Join(a, 0, round*(round/2)) != a {
		t.Error("a round of steps changes a register")
	}
	whole := make([]byte, 1<<20+3)
	dice.Read(whole)
	if sum := crc.Join(summed(whole[:5]), summed(whole[5:]), len(whole)-5); sum != crc32.ChecksumIEEE(whole) {
		t.Errorf("%x", sum)
	}
}

func TestP3_3_InWhateverPieces(t *testing.T) {
	table := crc.Make()
	dice := rand.New(rand.NewSource(6))
	for range 300 {
		whole := thrown(dice, 200)
		want := table.Of(whole)
		more, joined := uint32(0), uint32(0)
		for left := whole; len(left) > 0; {
			n := dice.Intn(min(len(left), 30) + 1)
			more = table.More(more, left[:n])
			joined = crc.Join(joined, table.Of(left[:n]), n)
			left = left[n:]
		}
		if more != want || joined != want {
			t.Fatalf("%v: %x, %x, not %x", whole, more, joined, want)
		}
	}
}

func TestP3_3_AtEachPlace(t *testing.T) {
	table, whole := crc.Make(), []byte("The quick brown fox jumps over the lazy dog")
	for k := range len(whole) + 1 {
		ahead, behind := table.Of(whole[:k]), table.Of(whole[k:])
		if table.More(ahead, whole[k:]) != 0x414FA339 || crc.Join(ahead, behind, len(whole)-k) != 0x414FA339 {
			t.Error(k)
		}
	}
}

// burst turns the bits of pattern in bytes, from the bit at on.
func burst(b []byte, at int, pattern uint32) []byte {
	out := bytes.Clone(b)
	for k := range 32 {
		if pattern>>k&1 == 1 {
			out[(at+k)/8] ^= 1 << ((at + k) % 8)
		}
	}
	return out
}

func TestP3_4_Bursts(t *testing.T) {
	table := crc.Make()
	dice := rand.New(rand.NewSource(7))
	patterns := []uint32{1, 3, 1 << 31, 1<<31 | 1, math.MaxUint32, 0xEDB88320, 0x04C11DB7, 0xDB710641}
	for range 60 {
		patterns = append(patterns, dice.Uint32()|1)
	}
	for _, size := range []int{4, 5, 9, 40} {
		b := make([]byte, size)
		dice.Read(b)
		sum := table.Of(b)
		for at := range size*8 - 31 {
			for _, p := range patterns {
				if other := burst(b, at, p); table.Of(other) == sum {
					t.Fatalf("%v and %v have one sum", b, other)
				}
			}
		}
	}
}

func TestP3_4_ShortBursts(t *testing.T) {
	table, b := crc.Make(), []byte("abcdefgh")
	sum := table.Of(b)
	for at := range len(b)*8 - 31 {
		for p := uint32(1); p < 1<<10; p++ {
			if other := burst(b, at, p); table.Of(other) == sum {
				t.Fatalf("%v has the sum of %v", other, b)
			}
		}
	}
	for c := range 256 { // a single byte among others
		if other := []byte{byte(c)}; c != 'a' && table.Of(other) == table.Of([]byte("a")) {
			t.Error(c)
		}
	}
}
