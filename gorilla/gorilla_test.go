package gorilla_test

import (
	"bytes"
	"math"
	"math/big"
	"math/rand"
	"slices"
	"strconv"
	"strings"
	"testing"

	"winepress/api"
	"winepress/gorilla"
	"winepress/word"
)

const most = math.MaxUint64

var widths = []int{1, 2, 4, 8}

// wrong is widths that are not right.
var wrong = []int{0, -1, -2, -4, -8, 3, 5, 6, 7, 9, 16, 32, 64, 256, 257, 1<<32 + 1, math.MaxInt, math.MinInt}

// laid is the bytes of bits that are written as noughts and ones, the first one first; blanks are for who reads.
func laid(bits string) []byte {
	bits = strings.ReplaceAll(bits, " ", "")
	out := make([]byte, (len(bits)+7)/8)
	for k, c := range []byte(bits) {
		if c == '1' {
			out[k/8] |= 1 << (k % 8)
		}
	}
	return out
}

// low is the lowest n bits of a number in writing, the lowest one first.
func low(v uint64, n int) string {
	var s strings.Builder
	for k := range n {
		s.WriteByte('0' + byte(v>>k&1))
	}
	return s.String()
}

// number is what bits in writing are, the lowest one first.
func number(bits string) uint64 {
	var v uint64
	for k, c := range []byte(bits) {
		v |= uint64(c-'0') << k
	}
	return v
}

// writing is what the document says of the bits of words, which fit, in writing.
func writing(l []uint64, width int) string {
	var out strings.Builder
	from, to := 0, 0 // the window, of bits the lowest of which is the first one
	for k, v := range l {
		if k == 0 {
			out.WriteString(low(v, 8*width))
			continue
		}
		x := low(v^l[k-1], 8*width)
		first, last := strings.Index(x, "1"), strings.LastIndex(x, "1")
		switch {
		case first < 0:
			out.WriteString("0")
			continue
		case from < to && from <= first && last < to:
			out.WriteString("10")
		default:
			from, to = first, last+1
			out.WriteString("11" + low(uint64(len(x)-to), 6) + low(uint64(to-from-1), 6))
		}
		out.WriteString(x[from:to])
	}
	return out.String()
}

// reading is what the document says of the words of bytes, bit by bit; false, if they tell none.
func reading(b []byte, width, n int) (l []uint64, ok bool) {
	var bits strings.Builder
	for _, c := range b {
		bits.WriteString(low(uint64(c), 8))
	}
	left := bits.String()
	defer func() { ok = recover() == nil && ok }() // of what is left no more can be cut than there is
	cut := func(n int) string {
		s := left[:n]
		left = left[n:]
		return s
	}
	above, many := 0, 0
	for k := range n {
		if k == 0 {
			l = append(l, number(cut(8*width)))
			continue
		}
		if cut(1) == "0" {
			l = append(l, l[k-1])
			continue
		}
		if cut(1) == "1" {
			above, many = int(number(cut(6))), int(number(cut(6)))+1
		}
		if many == 0 || above+many > 8*width {
			return nil, false
		}
		l = append(l, l[k-1]^number(cut(many))<<(8*width-above-many))
	}
	return l, len(left) < 8 && !strings.Contains(left, "1")
}

// pair is words that fit, and their bits in writing.
type pair struct {
	width int
	l     []uint64
	bits  string
}

var pairs = []pair{
	{1, []uint64{5, 5, 5}, "10100000 0 0"},
	{1, []uint64{5, 4}, "10100000 11 111000 000000 1"},
	{1, nil, ""},
	{1, []uint64{0}, "00000000"},
	{1, []uint64{255}, "11111111"},
	{2, []uint64{1<<15 + 2}, "0100000000000001"},
	{8, []uint64{1}, "1" + strings.Repeat("0", 63)},
	{8, []uint64{most}, strings.Repeat("1", 64)},
	// The first word makes no window, though it has ones.
	{1, []uint64{40, 0}, "00010100 11 010000 010000 101"},
	// What is within the window is laid in it, though it is narrower, and the window stays as wide.
	{1, []uint64{0, 60, 36, 32, 60}, "00000000 11 010000 110000 1111 10 0110 10 1000 10 1110"},
	// A word that is as the one ahead leaves the window.
	{1, []uint64{0, 60, 60, 52}, "00000000 11 010000 110000 1111 0 10 0100"},
	// A 1 above the window, one below it, and all ones within the new one again.
	{1, []uint64{0, 24, 56, 60, 0}, "00000000 11 110000 100000 11 11 010000 000000 1 11 101000 000000 1 11 010000 110000 1111"},
	{1, []uint64{0, 24, 28, 4}, "00000000 11 110000 100000 11 11 101000 000000 1 11 110000 100000 11"},
	// All bits, and the highest, and the lowest ones alone.
	{1, []uint64{0, 255, 254, 127}, "00000000 11 000000 111000 11111111 10 10000000 10 10000001"},
	{1, []uint64{0, 128, 129}, "00000000 11 000000 000000 1 11 111000 000000 1"},
	{2, []uint64{0, 1, 0, 1 << 15}, strings.Repeat("0", 16) + "11 111100 000000 1 10 1 11 000000 000000 1"},
	{4, []uint64{0, 1, 1<<31 + 1}, strings.Repeat("0", 32) + "11 111110 000000 1 11 000000 000000 1"},
	{8, []uint64{0, 1, 1<<63 + 1}, strings.Repeat("0", 64) + "11 111111 000000 1 11 000000 000000 1"},
	{8, []uint64{0, most, 1}, strings.Repeat("0", 64) + "11 000000 111111" + strings.Repeat("1", 64) + "10 0" + strings.Repeat("1", 63)},
}

// fitting is the words modulo Mask + 1 of the width.
func fitting(l []uint64, width int) []uint64 {
	out := slices.Clone(l)
	for k := range out {
		out[k] &= word.Mask(width)
	}
	return out
}

// thrown is words that fit, each of which differs from the one ahead in bits that lie near one another.
func thrown(dice *rand.Rand, most, width int) []uint64 {
	l := make([]uint64, dice.Intn(most+1))
	v := dice.Uint64()
	for k := range l {
		if dice.Intn(4) > 0 {
			many := 1 + dice.Intn(1+dice.Intn(8*width))
			v ^= dice.Uint64() >> (64 - many) << dice.Intn(8*width-many+1)
		}
		l[k] = v
	}
	return fitting(l, width)
}

func refused(t *testing.T, b []byte, width, n int, want api.Errno) {
	t.Helper()
	if got, e := gorilla.Unpack(b, width, n); e != want || len(got) != 0 {
		t.Errorf("Unpack of %v by %d, %d words: %v, %d, not %d", b, width, n, got, e, want)
	}
}

func unpacks(t *testing.T, b []byte, width int, want []uint64) {
	t.Helper()
	if got, e := gorilla.Unpack(b, width, len(want)); e != api.OK || !slices.Equal(got, want) {
		t.Errorf("Unpack of %v by %d: %v, %d, not %v", b, width, got, e, want)
	}
}

func TestP9_1_Examples(t *testing.T) {
	if got := gorilla.Pack([]uint64{5, 5, 5}, 1); !bytes.Equal(got, []byte{5, 0}) {
		t.Error(got)
	}
	if got := gorilla.Pack([]uint64{5, 4}, 1); !bytes.Equal(got, []byte{5, 31, 64}) {
		t.Error(got)
	}
}

func TestP9_1_Pack(t *testing.T) {
	for _, c := range pairs {
		if got := gorilla.Pack(c.l, c.width); !bytes.Equal(got, laid(c.bits)) {
			t.Errorf("Pack of %v by %d: %v, not %v", c.l, c.width, got, laid(c.bits))
		}
	}
}

func TestP9_1_Whatever(t *testing.T) {
	dice := rand.New(rand.NewSource(1))
	for range 2000 {
		for _, w := range widths {
			l := thrown(dice, 30, w)
			if got := gorilla.Pack(l, w); !bytes.Equal(got, laid(writing(l, w))) {
				t.Fatal(w, l, got)
			}
		}
	}
}

func TestP9_1_WordsThatDontFit(t *testing.T) {
	for _, c := range []struct {
		width    int
		l, asFit []uint64
	}{
		{1, []uint64{256 + 5, 512 + 5, most - 250}, []uint64{5, 5, 5}},
		{1, []uint64{5, 256 + 4}, []uint64{5, 4}},
		{2, []uint64{1 << 16, 1<<40 + 3}, []uint64{0, 3}},
		{4, []uint64{most, 1 << 32, 1<<63 + 1}, []uint64{1<<32 - 1, 0, 1}},
	} {
		if got := gorilla.Pack(c.l, c.width); !bytes.Equal(got, laid(writing(c.asFit, c.width))) {
			t.Error(c, got)
		}
	}
}

func TestP9_1_NoWords(t *testing.T) {
	for _, w := range widths {
		if len(gorilla.Pack(nil, w)) != 0 || len(gorilla.Pack([]uint64{}, w)) != 0 {
			t.Error(w)
		}
	}
}

func TestP9_1_WrongWidth(t *testing.T) {
	for _, w := range wrong {
		for _, l := range [][]uint64{nil, {0}, {1, 2, 3}} {
			if got := gorilla.Pack(l, w); len(got) != 0 {
				t.Error(w, l, got)
			}
		}
	}
}

func TestP9_1_NewMemory(t *testing.T) {
	for _, w := range widths {
		room := []uint64{300, 3, most, 4, 5}
		then := slices.Clone(room)
		got := gorilla.Pack(room[:3], w)
		clear(got)
		_ = append(got, 99)
		if !slices.Equal(room, then) {
			t.Error("what is handed in is changed", w, room)
		}
	}
}

func TestP9_2_Unpack(t *testing.T) {
	for _, c := range pairs {
		unpacks(t, laid(c.bits), c.width, c.l)
	}
}

// The bits needn't be those that Pack has.
func TestP9_2_OtherBits(t *testing.T) {
	// A window that is wider than it must be, up to all bits.
	unpacks(t, laid("00000000 11 010000 110000 0100"), 1, []uint64{0, 8})
	unpacks(t, laid("00000000 11 000000 111000 00010000"), 1, []uint64{0, 8})
	unpacks(t, laid(strings.Repeat("0", 64)+"11 000000 111111"+low(8, 64)), 8, []uint64{0, 8})
	// Noughts alone, within a window that is told, and within the one that was.
	unpacks(t, laid("10100000 11 010000 110000 0000 10 0000 10 1000"), 1, []uint64{5, 5, 5, 1})
	// A window, though the one that was would do.
	unpacks(t, laid("00000000 11 010000 110000 1111 11 110000 100000 11 10 01"), 1, []uint64{0, 60, 36, 52})
	// One more time the same window.
	unpacks(t, laid("00000000 11 111000 000000 1 11 111000 000000 1"), 1, []uint64{0, 1, 0})
}

func TestP9_2_WrongArg(t *testing.T) {
	inputs := [][]byte{nil, {5}, {5, 31, 64}, {255, 255, 255}} // ErrArg is named first
	for _, b := range inputs {
		for _, w := range wrong {
			for _, n := range []int{0, 1, 2, -1, 1<<26 + 1} {
				refused(t, b, w, n, api.ErrArg)
			}
		}
		for _, w := range widths {
			for _, n := range []int{-1, -2, 1<<26 + 1, 1 << 27, 1<<32 + 1, math.MaxInt, math.MinInt} {
				refused(t, b, w, n, api.ErrArg)
			}
		}
	}
}

func TestP9_2_MostArg(t *testing.T) {
	for _, w := range widths {
		for _, b := range [][]byte{nil, {5}, make([]byte, 1000)} {
			refused(t, b, w, 1<<26, api.ErrPayload)
		}
	}
}

// Without its last byte nothing that is packed is whole, nor of one word more.
func TestP9_2_TooEarly(t *testing.T) {
	for _, c := range pairs {
		b := laid(c.bits)
		for n := range b {
			refused(t, b[:n], c.width, len(c.l), api.ErrPayload)
		}
		refused(t, b, c.width, len(c.l)+8, api.ErrPayload)
	}
	for _, w := range widths {
		for n := range w {
			refused(t, make([]byte, n), w, 1, api.ErrPayload)
		}
		refused(t, nil, w, 1, api.ErrPayload)
		refused(t, nil, w, 2, api.ErrPayload)
	}
}

// However many words that are as the one ahead come first, bytes end within each part of a word's bits.
func TestP9_2_TooEarlyWithin(t *testing.T) {
	for alike := range 9 {
		first := "00000000" + strings.Repeat("0", alike)
		l := make([]uint64, 1+alike)
		for _, c := range []struct {
			bits   string
			behind []uint64
		}{
			{"11 010000 110000 1111", []uint64{60}},
			{"11 010000 110000 1111 10 0110", []uint64{60, 36}},
			{"11 000000 111000 11111111", []uint64{255}},
			{"11 000000 111000 11111111 10 00000001", []uint64{255, 127}},
		} {
			b := laid(first + c.bits)
			want := slices.Concat(l, c.behind)
			unpacks(t, b, 1, want)
			for n := range b {
				refused(t, b[:n], 1, len(want), api.ErrPayload)
			}
		}
		refused(t, make([]byte, 2), 1, 10+alike, api.ErrPayload)
	}
}

func TestP9_2_NoWindow(t *testing.T) {
	for _, w := range widths {
		first := low(5, 8*w)
		refused(t, laid(first+"10"), w, 2, api.ErrPayload)
		refused(t, laid(first+"10 00000000 00000000"), w, 2, api.ErrPayload)
		refused(t, laid(first+"10 1"), w, 2, api.ErrPayload)
		refused(t, laid(first+"0 0 10"), w, 4, api.ErrPayload)
	}
}

// L and M together, just as much as the width, and more.
func TestP9_2_WindowBeyondTheWidth(t *testing.T) {
	for _, w := range widths {
		first := low(0, 8*w)
		for above := range 64 {
			for many := 1; many <= 64; many++ {
				x := low(0, many-1) + "1"
				b := laid(first + "11" + low(uint64(above), 6) + low(uint64(many-1), 6) + x)
				if above+many > 8*w {
					refused(t, b, w, 2, api.ErrPayload)
				} else {
					unpacks(t, b, w, []uint64{0, 1 << (8*w - above - 1)})
				}
			}
		}
	}
	// A window that may not be takes away the one that was.
	refused(t, laid("00000000 11 010000 110000 1111 11 111111 111111 10 1111 0000"), 1, 4, api.ErrPayload)
}

func TestP9_2_MoreBehind(t *testing.T) {
	for _, c := range pairs {
		bits := strings.ReplaceAll(c.bits, " ", "")
		b := laid(bits)
		for k := len(bits); k < 8*len(b); k++ {
			spoilt := slices.Clone(b)
			spoilt[k/8] |= 1 << (k % 8)
			refused(t, spoilt, c.width, len(c.l), api.ErrPayload)
		}
		for _, more := range [][]byte{{0}, {1}, {255}, {0, 0}, make([]byte, 9)} {
			refused(t, append(slices.Clone(b), more...), c.width, len(c.l), api.ErrPayload)
		}
	}
	for _, w := range widths {
		unpacks(t, nil, w, nil)
		refused(t, []byte{0}, w, 0, api.ErrPayload)
		refused(t, []byte{5, 5}, w, 0, api.ErrPayload)
	}
}

// The noughts that fill up the last byte may be words as well.
func TestP9_2_NoughtsAreWords(t *testing.T) {
	for n := 2; n <= 9; n++ {
		unpacks(t, []byte{5, 0}, 1, slices.Repeat([]uint64{5}, n))
	}
	refused(t, []byte{5, 0}, 1, 1, api.ErrPayload)
	refused(t, []byte{5, 0}, 1, 10, api.ErrPayload)
}

func TestP9_2_Whatever(t *testing.T) {
	dice := rand.New(rand.NewSource(2))
	right := 0
	for range 100000 {
		w := widths[dice.Intn(len(widths))]
		l := thrown(dice, 6, w)
		b := laid(writing(l, w))
		for range dice.Intn(3) {
			if len(b) > 0 {
				b[dice.Intn(len(b))] ^= 1 << dice.Intn(8)
			}
		}
		n := max(0, len(l)+dice.Intn(3)-1)
		want, ok := reading(b, w, n)
		got, e := gorilla.Unpack(b, w, n)
		if ok {
			right++
			if e != api.OK || !slices.Equal(got, want) {
				t.Fatal(b, w, n, got, e, want)
			}
		} else if e != api.ErrPayload || len(got) != 0 {
			t.Fatal(b, w, n, got, e)
		}
	}
	if right < 10000 || right > 90000 {
		t.Error("hardly any were right, or wrong", right)
	}
}

func TestP9_2_NewMemory(t *testing.T) {
	room := []byte{5, 31, 64, 77, 77, 77}
	then := slices.Clone(room)
	got, _ := gorilla.Unpack(room[:3], 1, 2)
	if !bytes.Equal(room, then) {
		t.Error("what is handed in is changed", room)
	}
	clear(room)
	if !slices.Equal(got, []uint64{5, 4}) {
		t.Error("the answer is in the caller's memory", got)
	}
}

func TestP9_3_Most(t *testing.T) {
	counts := []int{1, 2, 3, 4, 5, 6, 7, 8, 9, 10, 100, 1000, 1 << 26, 1<<26 + 1, 1<<40 - 1, 1 << 40}
	for _, w := range widths {
		for _, n := range counts {
			bits := big.NewInt(int64(n - 1))
			bits.Mul(bits, big.NewInt(int64(8*w+14))).Add(bits, big.NewInt(int64(8*w+7)))
			if got := gorilla.Most(n, w); strconv.Itoa(got) != bits.Rsh(bits, 3).String() {
				t.Error(n, w, got)
			}
		}
		for _, n := range []int{0, -1, -2, -1 << 40, 1<<40 + 1, 1 << 60, math.MaxInt, math.MinInt} {
			if got := gorilla.Most(n, w); got != 0 {
				t.Error(n, w, got)
			}
		}
	}
	for _, c := range [][3]int{{1, 1, 1}, {2, 1, 4}, {3, 1, 7}, {5, 1, 12}, {1, 8, 8}, {2, 8, 18}, {1, 2, 2}, {1, 4, 4}} {
		if got := gorilla.Most(c[0], c[1]); got != c[2] {
			t.Error(c, got)
		}
	}
}

func TestP9_3_WrongWidth(t *testing.T) {
	for _, w := range wrong {
		for _, n := range []int{0, 1, 2, 100, 1 << 40} {
			if got := gorilla.Most(n, w); got != 0 {
				t.Error(n, w, got)
			}
		}
	}
}

// No words become more; two that differ in all bits, and one, become as many.
func TestP9_3_NoneIsMore(t *testing.T) {
	dice := rand.New(rand.NewSource(3))
	for _, w := range widths {
		for range 2000 {
			l := thrown(dice, 40, w)
			if got := len(gorilla.Pack(l, w)); got > gorilla.Most(len(l), w) {
				t.Fatal(w, l, got)
			}
		}
		for _, l := range [][]uint64{nil, {7}, {0, word.Mask(w)}} {
			if got := len(gorilla.Pack(l, w)); got != gorilla.Most(len(l), w) {
				t.Error(w, l, got)
			}
		}
	}
}

func TestP9_4_WhatIsPackedComesBack(t *testing.T) {
	dice := rand.New(rand.NewSource(4))
	for range 3000 {
		for _, w := range widths {
			l := thrown(dice, 40, w)
			unpacks(t, gorilla.Pack(l, w), w, l)
		}
	}
}

func TestP9_4_AtEdges(t *testing.T) {
	for _, w := range widths {
		m := word.Mask(w)
		edges := []uint64{0, 1, 2, m/2 - 1, m / 2, m/2 + 1, m - 1, m}
		for _, a := range edges {
			for _, b := range edges {
				for _, c := range edges {
					l := []uint64{a, b, c, c, a}
					unpacks(t, gorilla.Pack(l, w), w, l)
				}
			}
		}
	}
}

// Words that don't fit come back as those that do.
func TestP9_4_WordsThatDontFit(t *testing.T) {
	dice := rand.New(rand.NewSource(5))
	for range 300 {
		for _, w := range widths {
			l := thrown(dice, 40, 8)
			unpacks(t, gorilla.Pack(l, w), w, fitting(l, w))
		}
	}
}

func TestP9_4_Large(t *testing.T) {
	dice := rand.New(rand.NewSource(6))
	l := make([]uint64, 1<<18+1)
	for k := range l {
		l[k] = dice.Uint64()
	}
	for _, w := range widths {
		fit := fitting(l, w)
		got, e := gorilla.Unpack(gorilla.Pack(fit, w), w, len(fit))
		if e != api.OK || !slices.Equal(got, fit) {
			t.Error(w, e)
		}
	}
	alike := slices.Repeat([]uint64{7}, 1<<20)
	got, e := gorilla.Unpack(gorilla.Pack(alike, 8), 8, len(alike))
	if e != api.OK || !slices.Equal(got, alike) {
		t.Error(e)
	}
}

// What a call answers doesn't hang on the calls ahead of it.
func TestP9_4_NothingIsKept(t *testing.T) {
	for range 2 {
		for _, c := range pairs {
			unpacks(t, gorilla.Pack(c.l, c.width), c.width, c.l)
			refused(t, []byte{1, 2}, 4, 1, api.ErrPayload)
		}
	}
}
