package rice_test

import (
	"bytes"
	"math"
	"math/rand"
	"runtime"
	"slices"
	"strings"
	"testing"

	"winepress/api"
	"winepress/rice"
	"winepress/word"
)

const most = 1 << 26

var widths = []int{1, 2, 4, 8}

// wrongWidths is what no width is.
var wrongWidths = []int{0, -1, -2, -4, -8, 3, 5, 6, 7, 9, 16, 32, 64, 256, 257, 1 << 32, 1<<32 + 1, math.MaxInt, math.MinInt}

// wrongMany is how many bytes are not decoded.
var wrongMany = []int{-1, -2, math.MinInt, most + 1, most + 2, 1 << 27, 1 << 32, 1<<32 + 1, 1 << 62, math.MaxInt}

// pair is bytes, their width, and those that the document says they are coded as.
type pair struct {
	raw   []byte
	width int
	coded []byte
}

// of is the bytes of words.
func of(width int, l ...uint64) []byte {
	return word.Lay(l, width, nil)
}

// rising is 0 and so on.
func rising(n int) []byte {
	b := make([]byte, n)
	for i := range b {
		b[i] = byte(i)
	}
	return b
}

var pairs = []pair{
	{[]byte{3}, 1, []byte{6}},
	{[]byte{255}, 1, []byte{255, 127, 15}},
	{[]byte{255, 255, 255}, 1, []byte{255, 127, 239, 223, 63}},
	{make([]byte, 9), 1, make([]byte, 4)},
	{make([]byte, 40), 1, make([]byte, 9)},
	{[]byte{16, 15, 17, 0, 1}, 1, []byte{129, 47, 128, 0}},
	{of(2, 32768, 32768, 32768), 2, []byte{255, 255, 255, 0, 128, 1, 0, 2, 0, 0}},
	{of(8, math.MaxUint64), 8, bytes.Repeat([]byte{255}, 11)},
	{of(8, math.MaxUint64, math.MaxUint64), 8, bytes.Repeat([]byte{255}, 22)},
	{make([]byte, 7), 8, make([]byte, 7)},
	{[]byte{1, 2, 3, 4, 5}, 4, []byte{255, 255, 255, 1, 2, 3, 4, 5}},
	{of(2, 383), 2, []byte{255, 255, 127, 15}},
	{of(2, 384), 2, []byte{255, 255, 255, 128, 1}},
	{of(2, 382, 384), 2, []byte{255, 255, 127, 30, 32}},
	{bytes.Repeat([]byte{255}, 9), 4, []byte{255, 255, 255, 255, 255, 255, 255, 254, 255, 255, 255, 255, 1}},
	{of(8, 1<<32, 1<<32), 8, []byte{255, 255, 255, 0, 0, 0, 0, 1, 0, 0, 0, 1, 0, 0, 0, 0}},
	{of(8, 1<<32-1, 1<<32-1), 8, []byte{255, 255, 255, 255, 255, 255, 255, 0, 0, 0, 0, 254, 255, 255, 255, 1}},
	{[]byte{1, 2, 3}, 2, []byte{255, 255, 255, 1, 2, 3}},
	{of(8, math.MaxUint64, 1<<32+5, 1<<32, 1<<32-1, 7, 1<<33, 1<<37), 8, []byte{255, 255, 255, 255, 255, 255, 255, 255, 255, 255, 255, 21, 0, 0, 0, 4, 0, 0, 0, 224, 255, 255, 255, 223, 1, 0, 0, 192, 0, 0, 0, 0, 254, 255, 255, 1, 0, 0, 0, 64, 0, 0, 0, 0}},
	{of(4, 1<<32-1, 1<<32-1, 1), 4, []byte{255, 255, 255, 255, 255, 255, 255, 254, 255, 255, 255, 5, 0, 0, 0, 0}},
	// Counts are halved behind the word 31.
	{rising(40), 1, []byte{64, 200, 80, 217, 67, 73, 45, 214, 220, 135, 34, 105, 162, 42, 235, 194, 50, 109, 227, 58, 239, 7, 133, 68, 35, 82, 201, 116, 0}},
	{bytes.Repeat([]byte{200}, 34), 1, []byte{255, 15, 67, 66, 134, 12, 25, 50, 100, 200, 144, 33, 67, 134, 12, 25, 50, 100, 200, 144, 33, 67, 134, 12, 25, 50, 100, 200, 144, 33, 67, 134, 12, 25, 50, 100, 200, 144, 33, 3}},
	{append(make([]byte, 62), 3, 0, 3, 0), 2, []byte{0, 0, 0, 0, 0, 0, 0, 238, 0}},
	// A word counts as 2^32 at most: all are just four times 2^31 together, and one more by the second.
	{of(8, 1<<32-16, 1<<32+1, 0, 1<<31), 8, []byte{255, 255, 255, 240, 255, 255, 255, 0, 0, 0, 0, 11, 0, 0, 0, 0, 0, 0, 0, 8, 0, 0, 0, 0}},
	{of(8, 1<<32-15, 1<<32, 0, 1<<31), 8, []byte{255, 255, 255, 241, 255, 255, 255, 0, 0, 0, 0, 1, 0, 0, 0, 0, 0, 0, 0, 0, 0, 0, 0, 8}},
	{of(8, math.MaxUint64-15, math.MaxUint64, 0, 1<<32), 8, []byte{255, 255, 255, 240, 255, 255, 255, 255, 255, 255, 255, 255, 255, 255, 255, 255, 255, 255, 255, 255, 255, 255, 0, 0, 0, 0, 2, 0, 0, 0, 0}},
}

// number is the lowest bits of one, the lowest first.
func number(v uint64, n int) string {
	var s strings.Builder
	for range n {
		s.WriteByte('0' + byte(v%2))
		v /= 2
	}
	return s.String()
}

// ones is n ones, and a nought, if they are fewer than 24.
func ones(n int) string {
	s := strings.Repeat("1", n)
	if n < 24 {
		s += "0"
	}
	return s
}

// laid is the bytes of bits, filled up by noughts.
func laid(bits string) []byte {
	b := make([]byte, (len(bits)+7)/8)
	for i, c := range bits {
		if c == '1' {
			b[i/8] |= 1 << (i % 8)
		}
	}
	return b
}

// both is the two counts.
type both struct{ a, n uint64 }

// k is the parameter.
func (c both) k() int {
	for k := 0; ; k++ {
		if c.n*(1<<k) >= c.a {
			return k
		}
	}
}

// seen counts a word.
func (c *both) seen(v uint64) {
	c.a += min(v, 4294967296)
	c.n++
	if c.n == 32 {
		c.a, c.n = c.a/2, c.n/2
	}
}

// sizes is how many bits each word takes, and all bits, by the document's words.
func sizes(b []byte, width int) ([]int, string) {
	l, rest := word.Take(b, width)
	c := both{16, 1}
	var all strings.Builder
	var many []int
	for _, v := range l {
		k := c.k()
		s := ones(24) + number(v, 8*width)
		if q := v / (1 << k); q < 24 {
			s = ones(int(q)) + number(v, k)
		}
		all.WriteString(s)
		many = append(many, len(s))
		c.seen(v)
	}
	for _, v := range rest {
		all.WriteString(number(uint64(v), 8))
	}
	return many, all.String()
}

// plainly is bytes, coded by the document's words.
func plainly(b []byte, width int) []byte {
	_, bits := sizes(b, width)
	return laid(bits)
}

// taker takes bits.
type taker struct {
	b     []byte
	at    int
	short bool
}

func (r *taker) bit() uint64 {
	if r.at >= 8*len(r.b) {
		r.short = true
		return 0
	}
	v := r.b[r.at/8] >> (r.at % 8) & 1
	r.at++
	return uint64(v)
}

func (r *taker) number(n int) uint64 {
	v := uint64(0)
	for i := range n {
		v |= r.bit() << i
	}
	return v
}

func (r *taker) ones() int {
	for n := range 24 {
		if r.bit() == 0 {
			return n
		}
	}
	return 24
}

// plainBack is the n bytes that bits tell, by the document's words.
func plainBack(payload []byte, width, n int) ([]byte, bool) {
	r, c, b := &taker{b: payload}, both{16, 1}, []byte(nil)
	for range n / width {
		k, v := c.k(), uint64(0)
		if q := r.ones(); q < 24 {
			v = uint64(q)<<k + r.number(k)
		} else {
			v = r.number(8 * width)
		}
		if r.short || v > word.Mask(width) {
			return nil, false
		}
		b = append(b, of(width, v)...)
		c.seen(v)
	}
	for range n % width {
		b = append(b, byte(r.number(8)))
	}
	if r.short || 8*len(payload)-r.at >= 8 {
		return nil, false
	}
	for r.at < 8*len(payload) {
		if r.bit() == 1 {
			return nil, false
		}
	}
	return b, true
}

// codes asks for just these bytes.
func codes(t *testing.T, b []byte, width int, want []byte) {
	t.Helper()
	if got := rice.Code(b, width); !bytes.Equal(got, want) {
		t.Errorf("Code of %d bytes %v by %d: %v, not %v", len(b), b[:min(len(b), 30)], width, got, want)
	}
}

// decodes asks for just these bytes.
func decodes(t *testing.T, payload []byte, width int, want []byte) {
	t.Helper()
	if got, e := rice.Decode(payload, width, len(want)); e != api.OK || !bytes.Equal(got, want) {
		t.Errorf("Decode of %d bytes %v by %d: %d bytes %v, %d, not %d bytes", len(payload), payload[:min(len(payload), 30)], width, len(got), got[:min(len(got), 30)], e, len(want))
	}
}

// refused asks for an error, and nothing.
func refused(t *testing.T, payload []byte, width, n int, want api.Errno) {
	t.Helper()
	if got, e := rice.Decode(payload, width, n); e != want || len(got) != 0 {
		t.Errorf("Decode of %v by %d as %d: %d bytes, %d, not %d", payload[:min(len(payload), 30)], width, n, len(got), e, want)
	}
}

// thrown is bytes of words of one kind: small, great, mostly small, of any size, and some bytes behind them.
func thrown(dice *rand.Rand, width, n int) []byte {
	l := make([]uint64, n)
	kind, size := dice.Intn(5), dice.Intn(8*width+1)
	for i := range l {
		switch kind {
		case 0:
			l[i] = uint64(dice.Intn(4))
		case 1:
			l[i] = dice.Uint64()
		case 2:
			l[i] = uint64(dice.Intn(20))
			if dice.Intn(10) == 0 {
				l[i] = dice.Uint64()
			}
		case 3:
			l[i] = dice.Uint64() >> dice.Intn(64)
		default:
			l[i] = dice.Uint64() >> (64 - size)
		}
	}
	rest := make([]byte, dice.Intn(width))
	dice.Read(rest)
	return word.Lay(l, width, rest)
}

func TestP19_1_Example(t *testing.T) {
	codes(t, []byte{3}, 1, []byte{6})
}

func TestP19_1_Code(t *testing.T) {
	for _, p := range pairs {
		codes(t, p.raw, p.width, p.coded)
		codes(t, p.raw, p.width, plainly(p.raw, p.width))
	}
}

func TestP19_1_Nothing(t *testing.T) {
	for _, width := range widths {
		codes(t, nil, width, nil)
		codes(t, []byte{}, width, nil)
	}
}

func TestP19_1_WrongWidth(t *testing.T) {
	for _, width := range wrongWidths {
		for _, b := range [][]byte{nil, {}, {3}, {1, 2, 3}, bytes.Repeat([]byte{255}, 40)} {
			codes(t, b, width, nil)
		}
	}
}

// Fewer bytes than a word are laid as they are.
func TestP19_1_RestAlone(t *testing.T) {
	for _, width := range widths {
		for n := range width {
			b := []byte{255, 0, 129, 7, 1, 200, 254}[:n]
			codes(t, b, width, b)
		}
	}
}

func TestP19_1_EachFirstWord(t *testing.T) {
	for v := range uint64(256) {
		codes(t, of(1, v), 1, plainly(of(1, v), 1))
	}
	for v := range uint64(65536) {
		codes(t, of(2, v), 2, plainly(of(2, v), 2))
	}
	for _, width := range []int{4, 8} {
		for v := range uint64(2000) {
			codes(t, of(width, v, v), width, plainly(of(width, v, v), width))
			codes(t, of(width, -v, v), width, plainly(of(width, -v, v), width))
		}
	}
}

// Counts go on being halved, word by word.
func TestP19_1_ManyWords(t *testing.T) {
	for _, width := range widths {
		for _, v := range []uint64{0, 1, 2, 5, 100, 255, 65535, 1<<32 - 1, 1 << 32, 1<<32 + 1, math.MaxUint64} {
			for n := 28; n < 36; n++ {
				b := append(of(width, slices.Repeat([]uint64{v}, n)...), of(width, 0, 1, v, 3)...)
				codes(t, b, width, plainly(b, width))
			}
			b := append(of(width, slices.Repeat([]uint64{v}, 500)...), of(width, slices.Repeat([]uint64{3}, 500)...)...)
			codes(t, b, width, plainly(b, width))
		}
	}
}

func TestP19_1_Thrown(t *testing.T) {
	dice := rand.New(rand.NewSource(1))
	for range 1500 {
		width := widths[dice.Intn(4)]
		b := thrown(dice, width, dice.Intn(100))
		codes(t, b, width, plainly(b, width))
	}
}

func TestP19_1_NewMemory(t *testing.T) {
	for _, p := range pairs {
		room := append(slices.Clone(p.raw), 1, 2, 3)
		then := slices.Clone(room)
		got := rice.Code(room[:len(p.raw)], p.width)
		if !bytes.Equal(room, then) {
			t.Error("what is handed in is changed", p.coded)
		}
		clear(room)
		if !bytes.Equal(got, p.coded) {
			t.Error("the answer is in the caller's memory", p.coded)
		}
		_ = append(got, 99)
		clear(got)
		codes(t, p.raw, p.width, p.coded)
	}
}

func TestP19_2_Decode(t *testing.T) {
	for _, p := range pairs {
		decodes(t, p.coded, p.width, p.raw)
	}
	for _, width := range widths {
		decodes(t, nil, width, nil)
		decodes(t, []byte{}, width, nil)
	}
}

func TestP19_2_Wrong(t *testing.T) {
	payloads := [][]byte{nil, {}, {0}, {6}, {255}, bytes.Repeat([]byte{255}, 30)}
	for _, payload := range payloads {
		for _, width := range wrongWidths {
			for _, n := range append([]int{0, 1, 8, most}, wrongMany...) {
				refused(t, payload, width, n, api.ErrArg) // ErrArg is named first
			}
		}
		for _, width := range widths {
			for _, n := range wrongMany {
				refused(t, payload, width, n, api.ErrArg)
			}
		}
	}
}

// Each beginning, but all, ends too early; with a byte behind there are 8 bits or more.
func TestP19_2_AnotherLength(t *testing.T) {
	for _, p := range pairs {
		for n := range p.coded {
			refused(t, p.coded[:n], p.width, len(p.raw), api.ErrPayload)
			refused(t, slices.Clip(p.coded[:n]), p.width, len(p.raw), api.ErrPayload)
		}
		for _, c := range []byte{0, 1, 128, 255} {
			refused(t, append(slices.Clone(p.coded), c), p.width, len(p.raw), api.ErrPayload)
		}
	}
	for _, width := range widths {
		for _, c := range []byte{0, 1, 128, 255} {
			refused(t, []byte{c}, width, 0, api.ErrPayload)
		}
	}
}

// Bits that fill up the last byte are noughts.
func TestP19_2_Filled(t *testing.T) {
	for _, p := range pairs {
		_, bits := sizes(p.raw, p.width)
		for i := len(bits); i < 8*len(p.coded); i++ {
			spoilt := slices.Clone(p.coded)
			spoilt[i/8] |= 1 << (i % 8)
			refused(t, spoilt, p.width, len(p.raw), api.ErrPayload)
		}
	}
}

// A word may be laid in all its bits, however small it is.
func TestP19_2_AllItsBits(t *testing.T) {
	for _, width := range widths {
		for _, v := range []uint64{0, 1, 7, 15, 16, 255} {
			bits := ones(24) + number(v, 8*width)
			decodes(t, laid(bits), width, of(width, v))
			// The counts go on as they would: 16 + v and 2 of them.
			k := both{16 + v, 2}.k()
			decodes(t, laid(bits+ones(0)+number(1, k)+ones(24)+number(5, 8*width)), width, of(width, v, 1, 5))
		}
	}
}

func TestP19_2_WordTooGreat(t *testing.T) {
	for q := range 24 {
		for low := range uint64(16) {
			payload, v := laid(ones(q)+number(low, 4)), uint64(q)<<4+low
			for _, width := range []int{2, 4, 8} {
				decodes(t, payload, width, of(width, v))
			}
			if v < 256 {
				decodes(t, payload, 1, of(1, v))
			} else {
				refused(t, payload, 1, 1, api.ErrPayload)
			}
		}
	}
	// Behind the greatest word the parameter is such that a word of one and more is too great.
	for _, width := range []int{1, 2, 4} {
		whole := 8 * width
		greatest := ones(24) + number(math.MaxUint64, whole)
		decodes(t, laid(greatest+ones(0)+number(9, whole)), width, of(width, math.MaxUint64, 9))
		for q := 1; q < 24; q++ {
			refused(t, laid(greatest+ones(q)+number(0, whole)), width, 2*width, api.ErrPayload)
			refused(t, laid(greatest+ones(q)+number(9, whole)+ones(0)), width, 3*width, api.ErrPayload)
		}
	}
	greatest := ones(24) + number(math.MaxUint64, 64)
	for q := range 24 {
		decodes(t, laid(greatest+ones(q)+number(9, 32)), 8, of(8, math.MaxUint64, uint64(q)<<32+9)) // none of the width 8 is
	}
}

// Whatever the payload: just what the document's words say.
func TestP19_2_AnyBytes(t *testing.T) {
	dice := rand.New(rand.NewSource(2))
	many := 0
	for range 12000 {
		width := widths[dice.Intn(4)]
		b := thrown(dice, width, dice.Intn(8))
		payload := rice.Code(b, width)
		for range dice.Intn(3) {
			if len(payload) > 0 {
				payload[dice.Intn(len(payload))] ^= 1 << dice.Intn(8)
			}
		}
		n := max(0, len(b)+dice.Intn(6)/4-dice.Intn(6)/4)
		want, ok := plainBack(payload, width, n)
		if !ok {
			refused(t, payload, width, n, api.ErrPayload)
			continue
		}
		many++
		decodes(t, payload, width, want)
	}
	if many < 1000 || many > 11000 {
		t.Error("too few of a kind", many)
	}
}

// grown is how much memory a call takes.
func grown(call func()) uint64 {
	var then, now runtime.MemStats
	runtime.ReadMemStats(&then)
	call()
	runtime.ReadMemStats(&now)
	return now.TotalAlloc - then.TotalAlloc
}

// No room is taken for words that are only claimed.
func TestP19_2_MuchClaimed(t *testing.T) {
	room := grown(func() {
		for _, width := range widths {
			refused(t, nil, width, most, api.ErrPayload)
			refused(t, make([]byte, 1000), width, most, api.ErrPayload)
			refused(t, bytes.Repeat([]byte{255}, 1000), width, most, api.ErrPayload)
		}
	})
	if room > 1<<24 {
		t.Error(room)
	}
	decodes(t, rice.Code(make([]byte, most), 8), 8, make([]byte, most))
	refused(t, rice.Code(make([]byte, most+8), 8), 8, most+8, api.ErrArg)
}

func TestP19_2_NewMemory(t *testing.T) {
	for _, p := range pairs {
		room := append(slices.Clone(p.coded), 0, 0, 9, 9)
		then := slices.Clone(room)
		got, e := rice.Decode(room[:len(p.coded)], p.width, len(p.raw))
		if e != api.OK || !bytes.Equal(room, then) {
			t.Error("what is handed in is changed", p.coded, e)
		}
		clear(room)
		if !bytes.Equal(got, p.raw) {
			t.Error("the answer is in the caller's memory", p.coded)
		}
		clear(got)
		decodes(t, p.coded, p.width, p.raw)
		// What lies in the room behind the end is not taken.
		refused(t, then[:len(p.coded)-1], p.width, len(p.raw), api.ErrPayload)
	}
}

func TestP19_3_CodedAndDecoded(t *testing.T) {
	dice := rand.New(rand.NewSource(3))
	for range 4000 {
		width := widths[dice.Intn(4)]
		b := thrown(dice, width, dice.Intn(200))
		decodes(t, rice.Code(b, width), width, b)
	}
	for _, width := range widths {
		for range 5 {
			b := thrown(dice, width, 20000)
			decodes(t, rice.Code(b, width), width, b)
		}
	}
}

func TestP19_3_EachWord(t *testing.T) {
	for _, width := range []int{1, 2} {
		for v := range word.Mask(width) + 1 {
			b := of(width, v, 0, v)
			decodes(t, rice.Code(b, width), width, b)
		}
	}
	for _, width := range []int{4, 8} {
		for n := range 8 * width {
			for _, v := range []uint64{1<<n - 1, 1 << n, 1<<n + 1, -(1 << n)} {
				b := of(width, v, v, 0, v, v)
				decodes(t, rice.Code(b, width), width, b)
			}
		}
	}
}

// With one more word there are at most 24 and W bits more.
func TestP19_4_MostBits(t *testing.T) {
	dice := rand.New(rand.NewSource(4))
	for range 1000 {
		width := widths[dice.Intn(4)]
		b := thrown(dice, width, 1+dice.Intn(150))
		many, _ := sizes(b, width)
		bits := 0
		for i, n := range many {
			if n > 24+8*width {
				t.Fatal(b, width, i, n)
			}
			bits += n
			if got := rice.Code(b[:(i+1)*width], width); len(got) != (bits+7)/8 {
				t.Fatal(b, width, i, len(got), bits)
			}
		}
		if got := rice.Code(b, width); 8*len(got) > len(many)*(24+8*width)+len(b)%width*8+7 {
			t.Fatal(b, width, len(got))
		}
	}
}

// Words that are great behind ever so many small ones, and the other way round, take no more.
func TestP19_4_Worst(t *testing.T) {
	for _, width := range widths {
		for _, few := range []int{1, 2, 31, 32, 33, 400} {
			l := append(make([]uint64, few), math.MaxUint64)
			b := of(width, slices.Repeat(l, 20)...)
			payload := rice.Code(b, width)
			if len(payload) > (len(b)/width*(24+8*width)+7)/8 {
				t.Error(width, few, len(payload))
			}
			decodes(t, payload, width, b)
		}
		one := rice.Code(of(width, math.MaxUint64), width)
		if 8*len(one) > 24+8*width {
			t.Error(width, len(one))
		}
	}
}
