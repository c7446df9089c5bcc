package hist_test

import (
	"math"
	"math/rand"
	"slices"
	"testing"

	"winepress/api"
	"winepress/hist"
	"winepress/leb"
	"winepress/norm"
)

// letters is how many shares there are.
const letters = 256

// wrongBits is of how many bits no shares are together.
var wrongBits = []int{0, -1, -2, 17, 18, 63, 64, 65, 1<<32 + 1, math.MaxInt, math.MinInt}

// wrongShares is what no share is.
var wrongShares = []int{-1, -2, -65536, 65537, 65538, 1 << 17, 1<<32 + 1, 1 << 62, math.MaxInt, math.MinInt}

// pair is shares, of how many bits they are together, and the bytes that the document says they have.
type pair struct {
	shares []int
	bits   int
	bytes  []byte
}

var pairs = []pair{
	{some(255, 4), 2, []byte{255, 1, 3, 0}},
	{some(0, 4), 2, []byte{0, 3, 255, 1}},
	{some(0, 2), 1, []byte{0, 1, 255, 1}},
	{some(0, 65536), 16, []byte{0, 255, 255, 3, 255, 1}},
	{some(255, 65536), 16, []byte{255, 1, 255, 255, 3, 0}},
	{some(0, 1, 1, 1), 1, []byte{0, 0, 0, 0, 254, 1}},
	{some(0, 1, 255, 1), 1, []byte{0, 0, 254, 1, 0, 0}},
	{some(254, 1, 255, 1), 1, []byte{254, 1, 0, 0, 0, 0}},
	{some(65, 4096), 12, []byte{65, 255, 31, 190, 1}},
	{some(127, 129, 255, 127), 8, []byte{127, 128, 1, 127, 126, 0}},
	{some(128, 128, 129, 128), 8, []byte{128, 1, 127, 0, 127, 126}},
	{slices.Repeat([]int{1}, letters), 8, make([]byte, 513)},
	{slices.Repeat([]int{256}, letters), 16, append(slices.Repeat([]byte{0, 255, 1}, letters), 0)},
	{slices.Repeat([]int{0, 2}, letters/2), 8, append(slices.Repeat([]byte{1, 1}, letters/2), 0)},
	{slices.Repeat([]int{2, 0}, letters/2), 8, append(append([]byte{0, 1}, slices.Repeat([]byte{1, 1}, letters/2-1)...), 1)},
}

// some is shares that are 0 but where it is said: places, and the shares there.
func some(l ...int) []int {
	shares := make([]int, letters)
	for i := 0; i < len(l); i += 2 {
		shares[l[i]] = l[i+1]
	}
	return shares
}

// laid is numbers as bytes.
func laid(l ...uint64) []byte {
	var b []byte
	for _, n := range l {
		b = leb.Put(b, n)
	}
	return b
}

// plain is shares as bytes by the document's words.
func plain(shares []int) []byte {
	var b []byte
	for i := 0; ; i++ {
		noughts := 0
		for i < letters && shares[i] == 0 {
			noughts++
			i++
		}
		b = leb.Put(b, uint64(noughts))
		if i == letters {
			return b
		}
		b = leb.Put(b, uint64(shares[i]-1))
	}
}

// puts asks for just these bytes.
func puts(t *testing.T, shares []int, want []byte) {
	t.Helper()
	if got, e := hist.Put(shares); e != api.OK || !slices.Equal(got, want) {
		t.Errorf("Put of %v: %v, %d, not %v", shares, got, e, want)
	}
}

// gets asks for just these shares, of so many bytes.
func gets(t *testing.T, b []byte, bits int, want []int, size int) {
	t.Helper()
	if got, n, e := hist.Get(b, bits); e != api.OK || n != size || !slices.Equal(got, want) {
		t.Errorf("Get of %v by %d: %v, %d, %d, not %v, %d", b, bits, got, n, e, want, size)
	}
}

// unput asks for an error of Put, and nothing.
func unput(t *testing.T, shares []int, want api.Errno) {
	t.Helper()
	if b, e := hist.Put(shares); e != want || len(b) != 0 {
		t.Errorf("Put of %d shares: %v, %d, not %d", len(shares), b, e, want)
	}
}

// ungot asks for an error of Get, and nothing.
func ungot(t *testing.T, b []byte, bits int, want api.Errno) {
	t.Helper()
	if shares, n, e := hist.Get(b, bits); e != want || n != 0 || len(shares) != 0 {
		t.Errorf("Get of %v by %d: %v, %d, %d, not %d", b, bits, shares, n, e, want)
	}
}

// thrown is shares of so many bits, among at most so many letters.
func thrown(dice *rand.Rand, bits, most int) []int {
	shares, left := make([]int, letters), 1<<bits
	for k := range most {
		part := left
		if k < most-1 {
			part = dice.Intn(left + 1)
			if dice.Intn(3) > 0 {
				part = min(part, 1+dice.Intn(200))
			}
		}
		shares[dice.Intn(letters)] += part
		left -= part
	}
	return shares
}

func TestP16_1_Example(t *testing.T) {
	puts(t, some(255, 4), []byte{255, 1, 3, 0})
}

func TestP16_1_Put(t *testing.T) {
	for _, p := range pairs {
		puts(t, p.shares, p.bytes)
		puts(t, p.shares, plain(p.shares))
	}
}

// Put doesn't ask what shares are together.
func TestP16_1_WhateverTogether(t *testing.T) {
	puts(t, make([]int, letters), []byte{128, 2})
	puts(t, some(0, 1), []byte{0, 0, 255, 1})
	puts(t, some(0, 3), []byte{0, 2, 255, 1})
	puts(t, some(255, 1), []byte{255, 1, 0, 0})
	puts(t, some(254, 65535), []byte{254, 1, 254, 255, 3, 1})
	puts(t, some(1, 129, 3, 16384, 4, 16385), []byte{1, 128, 1, 1, 255, 127, 0, 128, 128, 1, 251, 1})
	most := slices.Repeat([]int{65536}, letters)
	puts(t, most, append(slices.Repeat([]byte{0, 255, 255, 3}, letters), 0))
}

func TestP16_1_EachPlace(t *testing.T) {
	for i := range letters {
		puts(t, some(i, 7), laid(uint64(i), 6, uint64(255-i)))
	}
}

func TestP16_1_EachShare(t *testing.T) {
	for share := 1; share <= 65536; share++ {
		if b, e := hist.Put(some(9, share)); e != api.OK || !slices.Equal(b, laid(9, uint64(share-1), 246)) {
			t.Fatal(share, b, e)
		}
	}
}

func TestP16_1_AnotherLength(t *testing.T) {
	unput(t, nil, api.ErrArg)
	unput(t, []int{}, api.ErrArg)
	for _, n := range []int{1, 2, 127, 128, 254, 255, 257, 258, 512, 4096, 65536} {
		unput(t, make([]int, n), api.ErrArg)
		unput(t, slices.Repeat([]int{1}, n), api.ErrArg)
	}
	room := make([]int, 2*letters)
	unput(t, room[:letters-1], api.ErrArg)
	unput(t, room[:letters+1], api.ErrArg)
	puts(t, room[:letters], []byte{128, 2})
}

func TestP16_1_WrongShares(t *testing.T) {
	for _, share := range wrongShares {
		for i := range letters {
			unput(t, some(i, share), api.ErrArg)
		}
		unput(t, some(0, 4, 255, share), api.ErrArg)
		unput(t, some(0, share, 255, 4), api.ErrArg)
		unput(t, slices.Repeat([]int{share}, letters), api.ErrArg)
		unput(t, []int{share}, api.ErrArg)
	}
}

func TestP16_1_NewMemory(t *testing.T) {
	for _, p := range pairs {
		room := append(slices.Clone(p.shares), 1, 2, 3)
		then := slices.Clone(room)
		got, e := hist.Put(room[:letters])
		if e != api.OK || !slices.Equal(room, then) {
			t.Error("what is handed in is changed", p.shares, e)
		}
		clear(room)
		if !slices.Equal(got, p.bytes) {
			t.Error("the answer is in the caller's memory", p.shares)
		}
		_ = append(got, 99)
		clear(got)
		puts(t, p.shares, p.bytes)
	}
}

func TestP16_2_Get(t *testing.T) {
	for _, p := range pairs {
		gets(t, p.bytes, p.bits, p.shares, len(p.bytes))
	}
}

func TestP16_2_WrongBits(t *testing.T) {
	for _, bits := range wrongBits {
		for _, b := range [][]byte{nil, {}, {0}, {255}, {128, 2}, {255, 1, 3, 0}, {0, 0, 255, 1}, {0, 255, 255, 3, 255, 1}} {
			ungot(t, b, bits, api.ErrArg) // ErrArg is named first
		}
	}
}

// Each beginning, but all, is none.
func TestP16_2_EndsTooEarly(t *testing.T) {
	for _, p := range pairs {
		for n := range p.bytes {
			ungot(t, p.bytes[:n], p.bits, api.ErrPayload)
			// What lies in the room behind the end isn't looked at, nor a copy without such room.
			ungot(t, slices.Clip(p.bytes[:n]), p.bits, api.ErrPayload)
		}
	}
	for bits := 1; bits <= 16; bits++ {
		ungot(t, nil, bits, api.ErrPayload)
		ungot(t, []byte{}, bits, api.ErrPayload)
	}
}

func TestP16_2_AnotherSum(t *testing.T) {
	for _, p := range pairs {
		for bits := 1; bits <= 16; bits++ {
			if bits != p.bits {
				ungot(t, p.bytes, bits, api.ErrPayload)
			}
		}
	}
	for bits := 1; bits <= 16; bits++ {
		whole := 1 << bits
		ungot(t, []byte{128, 2}, bits, api.ErrPayload) // 256 noughts
		for _, shares := range [][]int{some(0, 1), some(255, 1), some(3, whole-1), some(3, whole/2), some(3, whole, 4, 1), some(3, 1, 255, whole), some(0, whole, 255, whole), some(9, whole/2, 10, whole/2, 11, whole/2)} {
			ungot(t, plain(shares), bits, api.ErrPayload)
		}
		ungot(t, laid(3, uint64(whole), 252), bits, api.ErrPayload) // one more
		gets(t, laid(3, uint64(whole-1), 252), bits, some(3, whole), len(laid(3, uint64(whole-1), 252)))
	}
}

// Numbers of noughts that go beyond the last share, and shares beyond any.
func TestP16_2_TooMuch(t *testing.T) {
	for _, more := range []uint64{257, 258, 1 << 16, 1 << 31, 1 << 32, 1<<32 + 256, 1 << 62, 1<<63 - 1, 1 << 63, 1<<63 + 256, 1<<64 - 256, 1<<64 - 2, 1<<64 - 1} {
		ungot(t, laid(more), 2, api.ErrPayload)
		ungot(t, laid(more, 3, 0), 2, api.ErrPayload)
		ungot(t, laid(more, 3, 255), 2, api.ErrPayload)
		ungot(t, laid(0, 3, more), 2, api.ErrPayload)
		ungot(t, laid(0, 1, more, 1, 0), 2, api.ErrPayload)
		ungot(t, laid(0, 1, 0, 1, more), 2, api.ErrPayload)
	}
	for i := range uint64(letters) {
		gets(t, laid(i, 3, 255-i), 2, some(int(i), 4), len(laid(i, 3, 255-i)))
		ungot(t, laid(i, 3, 256-i), 2, api.ErrPayload)
		ungot(t, laid(i, 3, 257-i), 2, api.ErrPayload)
	}
	for bits := 1; bits <= 16; bits++ {
		for _, less := range []uint64{1 << bits, 1<<bits + 1, 1 << 17, 1 << 32, 1<<32 + 1, 1<<63 - 1, 1 << 63, 1<<63 + 1, 1<<64 - 1, 1<<64 - 2, -(uint64(1) << bits)} {
			ungot(t, laid(0, less, 255), bits, api.ErrPayload)
			ungot(t, laid(255, less, 0), bits, api.ErrPayload)
			ungot(t, laid(0, 0, 0, less, 254), bits, api.ErrPayload)
			ungot(t, laid(0, less, 0, 1<<bits-1, 254), bits, api.ErrPayload)
			ungot(t, laid(0, 1<<bits-1, 0, less, 254), bits, api.ErrPayload)
		}
		// All is given, and yet another letter follows.
		ungot(t, laid(0, 1<<bits-1, 0, 0, 254), bits, api.ErrPayload)
		ungot(t, laid(0, 1<<bits-1, 254, 0, 0), bits, api.ErrPayload)
		ungot(t, make([]byte, 513), min(bits, 7), api.ErrPayload)
	}
}

// Numbers that are laid in another form are none.
func TestP16_2_AnotherForm(t *testing.T) {
	for _, b := range [][]byte{
		{255, 129, 0, 3, 0},
		{255, 1, 131, 0, 0},
		{255, 1, 3, 128, 0},
		{255, 1, 3, 128},
		{128, 0, 3, 255, 1},
		{0, 3, 255, 129, 0},
		{0, 131, 128, 0, 255, 1},
		{255, 255, 255, 255, 255, 255, 255, 255, 255, 2, 3, 0},
		{255, 255, 255, 255, 255, 255, 255, 255, 255, 255, 1},
		{0, 128, 128, 128, 128, 128, 128, 128, 128, 128, 128, 1, 255, 1},
	} {
		ungot(t, b, 2, api.ErrPayload)
	}
}

func TestP16_2_NewMemory(t *testing.T) {
	for _, p := range pairs {
		room := append(slices.Clone(p.bytes), 9, 9)
		then := slices.Clone(room)
		got, n, e := hist.Get(room[:len(p.bytes)], p.bits)
		if e != api.OK || n != len(p.bytes) || !slices.Equal(room, then) {
			t.Error("what is handed in is changed", p.bytes, n, e)
		}
		clear(room)
		if !slices.Equal(got, p.shares) {
			t.Error("the answer is in the caller's memory", p.bytes)
		}
		clear(got)
		gets(t, p.bytes, p.bits, p.shares, len(p.bytes))
	}
}

// behind is what may stand behind the bytes of shares.
var behind = [][]byte{nil, {0}, {1}, {127}, {128}, {255}, {128, 2}, {255, 1, 3, 0}, make([]byte, 600)}

func TestP16_3_PutAndGot(t *testing.T) {
	dice := rand.New(rand.NewSource(1))
	for range 300 {
		for bits := 1; bits <= 16; bits++ {
			shares := thrown(dice, bits, 1+dice.Intn(300))
			b, e := hist.Put(shares)
			if e != api.OK || !slices.Equal(b, plain(shares)) {
				t.Fatal(shares, b, e)
			}
			gets(t, append(b, behind[dice.Intn(len(behind))]...), bits, shares, len(b))
		}
	}
	for _, p := range pairs {
		for _, more := range behind {
			gets(t, slices.Concat(p.bytes, more), p.bits, p.shares, len(p.bytes))
		}
	}
}

// What is got of bytes, whatever they are, is laid as it was.
func TestP16_3_GotAndPut(t *testing.T) {
	dice := rand.New(rand.NewSource(2))
	many := 0
	for range 30000 {
		bits := 1 + dice.Intn(16)
		b := plain(thrown(dice, bits, 1+dice.Intn(8)))
		for range dice.Intn(3) {
			b[dice.Intn(len(b))] ^= 1 << dice.Intn(8)
		}
		shares, n, e := hist.Get(b, bits)
		if e != api.OK {
			ungot(t, b, bits, api.ErrPayload)
			continue
		}
		many++
		sum := 0
		for _, share := range shares {
			sum += share
		}
		if sum != 1<<bits || len(shares) != letters {
			t.Fatal(b, bits, shares)
		}
		puts(t, shares, b[:n])
	}
	if many < 10000 {
		t.Error("too few that are shares", many)
	}
}

// All bytes of a few small numbers: what is got is just what is put.
func TestP16_3_AllShortOnes(t *testing.T) {
	told := map[string][]int{}
	for _, shares := range shortOnes() {
		told[string(plain(shares))] = shares
	}
	last := []byte{0, 1, 2, 3, 126, 127, 128, 129, 250, 251, 252, 253, 254, 255}
	b := make([]byte, 4)
	for v := range len(last) * len(last) * len(last) * len(last) {
		for i := range b {
			b[i], v = last[v%len(last)], v/len(last)
		}
		if shares := told[string(b)]; shares != nil {
			gets(t, b, 2, shares, 4)
		} else {
			ungot(t, b, 2, api.ErrPayload)
		}
	}
}

// shortOnes is all shares of 2 bits of one letter alone: those of more letters have more bytes than 4.
func shortOnes() [][]int {
	var l [][]int
	for i := range letters {
		l = append(l, some(i, 4))
	}
	return l
}

// The shares of what bytes have are laid, and got.
func TestP16_3_OfBytes(t *testing.T) {
	for _, b := range [][]byte{{65}, {0, 255}, []byte("abracadabra")} {
		shares, e := norm.Norm(norm.Count(b), api.RansBits)
		if e != api.OK {
			t.Fatal(e)
		}
		puts(t, shares, plain(shares))
		gets(t, append(plain(shares), b...), api.RansBits, shares, len(plain(shares)))
	}
}
