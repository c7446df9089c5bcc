package blend_test

import (
	"bytes"
	"hash/crc32"
	"math"
	"math/rand"
	"runtime"
	"slices"
	"testing"

	"winepress/api"
	"winepress/blend"
	"winepress/model"
)

const most = 1 << 26

// way is one of both in which bytes are coded.
type way struct {
	name   string
	code   func([]byte) []byte
	decode func([]byte, int) ([]byte, api.Errno)
	teller func() teller
}

var ways = []way{
	{"bit by bit", blend.Code, blend.Decode, bitByBit},
	{"letter by letter", blend.Adapt, blend.Adapted, letterByLetter},
}

// vectors is bytes, and those that the document's words make of them, by either way.
var vectors = []struct {
	raw   []byte
	coded [2][]byte
}{
	{nil, [2][]byte{nil, nil}},
	{[]byte{0}, [2][]byte{{254, 252, 0, 0}, {0, 0, 0, 0, 0}}},
	{[]byte{255}, [2][]byte{{0, 0, 0, 0, 0}, {254, 255, 255, 1}}},
	{[]byte{65}, [2][]byte{{189, 253, 0, 0}, {64, 255, 255, 191}}},
	{[]byte{128}, [2][]byte{{126, 252, 128, 0}, {127, 255, 255, 128}}},
	{[]byte{0, 0}, [2][]byte{{255, 249, 94, 208, 0}, {0, 0, 0, 0, 0}}},
	{[]byte{0, 255}, [2][]byte{{254, 252, 0, 0, 0, 0}, {0, 255, 21, 240, 96, 0}}},
	{[]byte{255, 0}, [2][]byte{{0, 254, 131, 171, 0}, {254, 255, 255, 1, 0, 0}}},
	{[]byte{1, 2, 3}, [2][]byte{{254, 249, 34, 60, 196, 243}, {1, 23, 236, 174, 251, 0}}},
	{[]byte("abracadabra"), [2][]byte{
		{158, 153, 114, 104, 253, 162, 8, 92, 214, 180, 10, 67, 116},
		{97, 112, 7, 70, 107, 156, 112, 242, 11, 97, 0},
	}},
	{bytes.Repeat([]byte{97}, 20), [2][]byte{
		{158, 154, 176, 46, 78, 132, 194, 211, 95, 94, 58, 168, 240, 67},
		{97, 97, 96, 188, 188, 143, 65},
	}},
	{rising(32), [2][]byte{
		{255, 249, 89, 139, 71, 146, 34, 58, 203, 237, 141, 11, 199, 140, 33, 1, 187, 129, 224, 167, 122, 71, 35, 158, 53, 164, 199, 190, 182},
		{0, 23, 2, 25, 191, 63, 205, 235, 73, 89, 108, 247, 195, 180, 153, 207, 52, 26, 68, 170, 141, 130, 16, 16, 55, 186, 33, 73, 188, 17, 68, 82, 241, 53, 213, 149, 38, 205, 204, 0},
	}},
}

// long is bytes of which only it is known how many those are that the document's words make of them, and their sum.
var long = []struct {
	raw  []byte
	many [2]int
	sum  [2]uint32
}{
	{made(1000, func(int) int { return 7 }), [2]int{19, 15}, [2]uint32{0xe59a1524, 0x87579beb}},
	{made(3000, func(i int) int { return i * i / 7 }), [2]int{2717, 2775}, [2]uint32{0x6f02c70b, 0x77c308a4}},
	{made(5000, func(i int) int { return 97 + i*i/5%3 }), [2]int{636, 870}, [2]uint32{0xa077f7da, 0x18e2960b}},
	{make([]byte, 20000), [2]int{43, 90}, [2]uint32{0x2616358c, 0x61be0133}},
	{made(4000, func(i int) int { return i * i * i / 11 }), [2]int{3951, 4130}, [2]uint32{0x382e27d2, 0x21bce448}},
}

// wrongMany is how many bytes are not decoded.
var wrongMany = []int{-1, -2, -256, math.MinInt, most + 1, most + 2, 1 << 27, 1 << 32, 1<<32 + 1, 1 << 62, math.MaxInt}

// made is n bytes by a rule.
func made(n int, rule func(i int) int) []byte {
	b := make([]byte, n)
	for i := range b {
		b[i] = byte(rule(i))
	}
	return b
}

func rising(n int) []byte {
	return made(n, func(i int) int { return i })
}

// teller tells of the letters to come, by the document's words.
type teller interface {
	// parts is the parts of a letter, which is seen then.
	parts(letter int) [][3]uint64
	// find is the letter that is found by a number of each part's whole, and false, if there is none.
	find(number func(total uint64) (uint64, bool), take func(part [3]uint64) bool) (int, bool)
}

// bits tells them bit by bit.
type bits struct {
	m *model.Model
}

func bitByBit() teller { return bits{model.New()} }

func (t bits) part(bit int) [3]uint64 {
	p := uint64(t.m.P())
	if bit == 1 {
		return [3]uint64{0, p, 65536}
	}
	return [3]uint64{p, 65536 - p, 65536}
}

func (t bits) parts(letter int) [][3]uint64 {
	var l [][3]uint64
	for _, place := range []int{128, 64, 32, 16, 8, 4, 2, 1} {
		bit := letter / place % 2
		l = append(l, t.part(bit))
		t.m.Seen(bit)
	}
	return l
}

func (t bits) find(number func(uint64) (uint64, bool), take func([3]uint64) bool) (int, bool) {
	letter := 0
	for range 8 {
		v, ok := number(65536)
		if !ok {
			return 0, false
		}
		bit := 0
		if v < uint64(t.m.P()) {
			bit = 1
		}
		if !take(t.part(bit)) {
			return 0, false
		}
		t.m.Seen(bit)
		letter = 2*letter + bit
	}
	return letter, true
}

// counts tells them letter by letter.
type counts struct {
	l *[256]uint64
}

func letterByLetter() teller {
	t := counts{new([256]uint64)}
	for i := range t.l {
		t.l[i] = 1
	}
	return t
}

func (t counts) below(letter int) uint64 {
	sum := uint64(0)
	for _, n := range t.l[:letter] {
		sum += n
	}
	return sum
}

func (t counts) part(letter int) [3]uint64 {
	return [3]uint64{t.below(letter), t.l[letter], t.below(256)}
}

func (t counts) seen(letter int) {
	t.l[letter] += 24
	for t.below(256) > 16384 {
		for i, n := range t.l {
			t.l[i] = n/2 + n%2
		}
	}
}

func (t counts) parts(letter int) [][3]uint64 {
	l := [][3]uint64{t.part(letter)}
	t.seen(letter)
	return l
}

func (t counts) find(number func(uint64) (uint64, bool), take func([3]uint64) bool) (int, bool) {
	v, ok := number(t.below(256))
	if !ok {
		return 0, false
	}
	letter := 0
	for t.below(letter+1) <= v {
		letter++
	}
	if !take(t.part(letter)) {
		return 0, false
	}
	t.seen(letter)
	return letter, true
}

// span is a range coder's, by the document's words.
type span struct {
	from, wide uint64
}

// narrow is the highest bytes that move.
func (s *span) narrow(part [3]uint64) []byte {
	step := s.wide / part[2]
	s.from = (s.from + part[0]*step) % (1 << 32)
	s.wide = part[1] * step
	var moved []byte
	for {
		same := s.from>>24 == (s.from+s.wide)%(1<<32)>>24
		if !same && s.wide >= 65536 {
			return moved
		}
		if !same {
			s.wide = 65536 - s.from%65536
		}
		moved = append(moved, byte(s.from>>24))
		s.from = s.from * 256 % (1 << 32)
		s.wide = s.wide * 256 % (1 << 32)
	}
}

// plainly is bytes coded by the document's words.
func plainly(b []byte, t teller) []byte {
	if len(b) == 0 {
		return nil
	}
	s := span{0, 1<<32 - 1}
	var out []byte
	for _, c := range b {
		for _, part := range t.parts(int(c)) {
			out = append(out, s.narrow(part)...)
		}
	}
	return append(out, byte(s.from>>24), byte(s.from>>16), byte(s.from>>8), byte(s.from))
}

// plainBack is bytes decoded by the document's words.
func plainBack(payload []byte, n int, t teller) ([]byte, bool) {
	if n == 0 && len(payload) == 0 {
		return nil, true
	}
	if len(payload) < 4 {
		return nil, false
	}
	s, at := span{0, 1<<32 - 1}, uint64(0)
	next := func() bool {
		if len(payload) == 0 {
			return false
		}
		at = (256*at + uint64(payload[0])) % (1 << 32)
		payload = payload[1:]
		return true
	}
	for range 4 {
		next()
	}
	number := func(total uint64) (uint64, bool) {
		v := (at + 1<<32 - s.from) % (1 << 32) / (s.wide / total)
		return v, v < total
	}
	take := func(part [3]uint64) bool {
		for range s.narrow(part) {
			if !next() {
				return false
			}
		}
		return true
	}
	var b []byte
	for range n {
		letter, ok := t.find(number, take)
		if !ok {
			return nil, false
		}
		b = append(b, byte(letter))
	}
	return b, len(payload) == 0
}

// codes asks for just these bytes.
func codes(t *testing.T, w way, b, want []byte) {
	t.Helper()
	if got := w.code(b); !bytes.Equal(got, want) {
		t.Errorf("%s: of %d bytes %v: %d bytes %v, not %d %v", w.name, len(b), b[:min(len(b), 30)], len(got), got[:min(len(got), 30)], len(want), want[:min(len(want), 30)])
	}
}

// decodes asks for just these bytes.
func decodes(t *testing.T, w way, payload, want []byte) {
	t.Helper()
	if got, e := w.decode(payload, len(want)); e != api.OK || !bytes.Equal(got, want) {
		t.Errorf("%s: of %d bytes %v: %d bytes, %d, not %d bytes", w.name, len(payload), payload[:min(len(payload), 30)], len(got), e, len(want))
	}
}

// refused asks for an error, and nothing.
func refused(t *testing.T, w way, payload []byte, n int, want api.Errno) {
	t.Helper()
	if got, e := w.decode(payload, n); e != want || len(got) != 0 {
		t.Errorf("%s: of %d bytes %v as %d: %d bytes, %d, not %d", w.name, len(payload), payload[:min(len(payload), 30)], n, len(got), e, want)
	}
}

// asPlain asks for what the document's words make of a payload, and tells whether it is bytes.
func asPlain(t *testing.T, w way, payload []byte, n int) bool {
	t.Helper()
	want, ok := plainBack(payload, n, w.teller())
	if ok {
		decodes(t, w, payload, want)
	} else {
		refused(t, w, payload, n, api.ErrPayload)
	}
	return ok
}

// thrown is bytes of one kind: all alike, few letters, some far more often than others, words, any.
func thrown(dice *rand.Rand, n int) []byte {
	kind, base := dice.Intn(6), dice.Intn(256)
	return made(n, func(i int) int {
		switch kind {
		case 0:
			return base
		case 1:
			return base + dice.Intn(3)
		case 2:
			return base + dice.Intn(40)/39*dice.Intn(256)
		case 3:
			return int(dice.NormFloat64() * 20)
		case 4:
			return []int{dice.Intn(256), i >> 4, 0, base}[i%4]
		}
		return dice.Intn(256)
	})
}

func TestP26_1_Example(t *testing.T) {
	if got := blend.Adapt([]byte{0}); !bytes.Equal(got, []byte{0, 0, 0, 0, 0}) {
		t.Error(got)
	}
}

func TestP26_1_OfNothing(t *testing.T) {
	for _, w := range ways {
		codes(t, w, nil, nil)
		codes(t, w, []byte{}, nil)
		codes(t, w, []byte{1, 2, 3}[:0], nil)
	}
}

func TestP26_1_Vectors(t *testing.T) {
	for i, w := range ways {
		for _, v := range vectors {
			codes(t, w, v.raw, v.coded[i])
		}
	}
}

func TestP26_1_Long(t *testing.T) {
	for i, w := range ways {
		for _, v := range long {
			got := w.code(v.raw)
			if len(got) != v.many[i] || crc32.ChecksumIEEE(got) != v.sum[i] {
				t.Errorf("%s of %d bytes %v: %d bytes, not %d", w.name, len(v.raw), v.raw[:9], len(got), v.many[i])
			}
		}
	}
}

func TestP26_1_FewLetters(t *testing.T) {
	for _, w := range ways {
		for c := range 256 {
			for _, b := range [][]byte{{byte(c)}, {byte(c), byte(c)}, {byte(c), 0, byte(c)}, {255, byte(c)}, {byte(c), byte(c * 7), byte(c), byte(c * 7)}} {
				codes(t, w, b, plainly(b, w.teller()))
			}
		}
	}
}

func TestP26_1_Thrown(t *testing.T) {
	dice := rand.New(rand.NewSource(1))
	for _, w := range ways {
		for range 150 {
			b := thrown(dice, 1+dice.Intn(120))
			codes(t, w, b, plainly(b, w.teller()))
		}
	}
}

// Counts are halved first where 673 bytes were seen, and again and again behind that.
func TestP26_1_CountsHalved(t *testing.T) {
	dice := rand.New(rand.NewSource(2))
	for _, w := range ways {
		for _, n := range []int{671, 672, 673, 674, 675, 1010, 1020, 1400, 4000} {
			b := thrown(dice, n)
			codes(t, w, b, plainly(b, w.teller()))
		}
	}
}

// Each call begins anew: what was seen by one is not known to the next one.
func TestP26_1_Anew(t *testing.T) {
	b := bytes.Repeat([]byte("abcabd"), 200)
	for _, w := range ways {
		first := w.code(b)
		for range 3 {
			w.code([]byte("aaaaaaaaaaaaaaaa"))
			decodes(t, w, first, b)
			codes(t, w, b, first)
		}
	}
}

func TestP26_1_NewMemory(t *testing.T) {
	for i, w := range ways {
		for _, v := range vectors {
			room := append(slices.Clone(v.raw), 1, 2, 3)
			then := slices.Clone(room)
			got := w.code(room[:len(v.raw)])
			if !bytes.Equal(room, then) {
				t.Error(w.name, "what is handed in is changed", v.raw)
			}
			clear(room)
			if !bytes.Equal(got, v.coded[i]) {
				t.Error(w.name, "the answer is in the caller's memory", v.raw)
			}
			_ = append(got, 99)
			clear(got)
			codes(t, w, v.raw, v.coded[i])
		}
	}
}

func TestP26_2_Vectors(t *testing.T) {
	for i, w := range ways {
		for _, v := range vectors {
			decodes(t, w, v.coded[i], v.raw)
		}
	}
}

// ErrArg is named first.
func TestP26_2_WrongMany(t *testing.T) {
	for i, w := range ways {
		for _, n := range wrongMany {
			for _, payload := range [][]byte{nil, {}, {0}, {0, 0, 0, 0}, {255, 255, 255, 255}, make([]byte, 2000), vectors[1].coded[i], vectors[9].coded[i]} {
				refused(t, w, payload, n, api.ErrArg)
			}
		}
	}
}

// Of no bytes there are no parts: four bytes that begin, and none behind them.
func TestP26_2_NoBytes(t *testing.T) {
	for _, w := range ways {
		decodes(t, w, nil, nil)
		decodes(t, w, []byte{}, nil)
		decodes(t, w, []byte{0, 0, 0, 0}, nil)
		decodes(t, w, []byte{1, 2, 3, 4}, nil)
		decodes(t, w, []byte{255, 255, 255, 255}, nil)
		for _, n := range []int{1, 2, 3, 5, 6, 100} {
			refused(t, w, make([]byte, n), 0, api.ErrPayload)
			refused(t, w, bytes.Repeat([]byte{255}, n), 0, api.ErrPayload)
		}
	}
}

func TestP26_2_TooShort(t *testing.T) {
	for _, w := range ways {
		for _, n := range []int{1, 2, 1000, most - 1, most} {
			for size := range 4 {
				refused(t, w, make([]byte, size), n, api.ErrPayload)
				refused(t, w, bytes.Repeat([]byte{255}, size), n, api.ErrPayload)
				refused(t, w, rising(4)[:size], n, api.ErrPayload)
			}
		}
	}
}

// A number that is beyond the whole is no part's.
func TestP26_2_FindHasAnError(t *testing.T) {
	for _, payload := range [][]byte{{255, 255, 255, 255}, {255, 255, 255, 255, 0}, {255, 255, 255, 255, 255, 255, 255}, {255, 255, 255, 0, 0}} {
		for n := 1; n < 4; n++ {
			for _, w := range ways {
				refused(t, w, payload, n, api.ErrPayload)
			}
		}
	}
	// The last number of the first whole, and the one behind it.
	decodes(t, ways[1], []byte{255, 255, 254, 255}, []byte{255})
	refused(t, ways[1], []byte{255, 255, 255, 0}, 1, api.ErrPayload)
	for _, w := range ways {
		many := 0
		for high := range 1 << 12 {
			if asPlain(t, w, []byte{byte(high >> 4), byte(high << 4), 255, 255}, 1) {
				many++
			}
		}
		if many < 1<<11 || many == 1<<12 {
			t.Error(w.name, many)
		}
	}
}

// The last bytes need not be those that are laid: a number within the last part will do.
func TestP26_2_WithinTheLastPart(t *testing.T) {
	for i, w := range ways {
		for _, v := range vectors[1:] {
			many := 0
			for k := range 4 {
				for turned := range 256 {
					payload := slices.Clone(v.coded[i])
					payload[len(payload)-1-k] = byte(turned)
					if asPlain(t, w, payload, len(v.raw)) {
						many++
					}
				}
			}
			if many < 4 {
				t.Error(w.name, v.raw, many)
			}
		}
	}
}

// Each beginning, but all, ends too early; bytes behind are left.
func TestP26_2_AnotherLength(t *testing.T) {
	for i, w := range ways {
		for _, v := range vectors[1:] {
			coded := v.coded[i]
			for n := range coded {
				refused(t, w, coded[:n], len(v.raw), api.ErrPayload)
				refused(t, w, slices.Clip(coded[:n]), len(v.raw), api.ErrPayload)
			}
			for _, c := range []byte{0, 1, 128, 255} {
				refused(t, w, append(slices.Clone(coded), c), len(v.raw), api.ErrPayload)
				refused(t, w, append(slices.Clone(coded), 0, 0, 0, 0, c), len(v.raw), api.ErrPayload)
			}
		}
	}
}

// As many bytes as are asked for, or none.
func TestP26_2_AnotherMany(t *testing.T) {
	for i, w := range ways {
		for _, v := range vectors {
			for n := range len(v.raw) + 40 {
				asPlain(t, w, v.coded[i], n)
			}
			if n := len(v.raw); n > 0 {
				refused(t, w, v.coded[i], most, api.ErrPayload)
			}
		}
	}
	for _, w := range ways {
		payload := w.code(make([]byte, 3000))
		more := 0
		for n := 2000; n < 4000; n += 50 {
			if asPlain(t, w, payload, n) {
				more++
			}
		}
		if more < 2 || more > 38 {
			t.Error(w.name, "too few of a kind", more)
		}
	}
}

// Whatever the payload: just what the document's words say comes out.
func TestP26_2_AnyBytes(t *testing.T) {
	dice := rand.New(rand.NewSource(3))
	for _, w := range ways {
		many, all := 0, 0
		for range 700 {
			b := thrown(dice, 1+dice.Intn(30))
			payload := w.code(b)
			for range dice.Intn(3) {
				k := len(payload) - 1 - dice.Intn(len(payload))*dice.Intn(2)
				payload[k] ^= 1 << dice.Intn(8)
			}
			n := max(0, len(b)+dice.Intn(6)/4-dice.Intn(6)/4)
			all++
			if asPlain(t, w, payload, n) {
				many++
			}
		}
		if many < all/8 || many > all*7/8 {
			t.Error(w.name, "too few of a kind", many, all)
		}
		for range 700 {
			payload := make([]byte, dice.Intn(40))
			dice.Read(payload)
			asPlain(t, w, payload, dice.Intn(40))
		}
	}
}

// grown is how much memory a call takes.
func grown(call func()) uint64 {
	var then, now runtime.MemStats
	runtime.ReadMemStats(&then)
	call()
	runtime.ReadMemStats(&now)
	return now.TotalAlloc - then.TotalAlloc
}

// No room is taken for bytes that are only claimed.
func TestP26_2_MuchClaimed(t *testing.T) {
	for i, w := range ways {
		room := grown(func() {
			for _, v := range vectors[1:] {
				refused(t, w, nil, most, api.ErrPayload)
				refused(t, w, v.coded[i], most, api.ErrPayload)
				refused(t, w, append(slices.Clone(v.coded[i]), make([]byte, 50)...), most, api.ErrPayload)
			}
		})
		if room > 1<<24 {
			t.Error(w.name, room)
		}
	}
}

func TestP26_2_NewMemory(t *testing.T) {
	for i, w := range ways {
		for _, v := range vectors[1:] {
			coded := v.coded[i]
			room := append(slices.Clone(coded), 0, 0, 9, 9)
			then := slices.Clone(room)
			got, e := w.decode(room[:len(coded)], len(v.raw))
			if e != api.OK || !bytes.Equal(room, then) {
				t.Error(w.name, "what is handed in is changed", v.raw, e)
			}
			clear(room)
			if !bytes.Equal(got, v.raw) {
				t.Error(w.name, "the answer is in the caller's memory", v.raw)
			}
			clear(got)
			decodes(t, w, coded, v.raw)
			// What lies in the room behind the end is not taken.
			refused(t, w, then[:len(coded)-1], len(v.raw), api.ErrPayload)
		}
	}
}

func TestP26_3_CodedAndDecoded(t *testing.T) {
	dice := rand.New(rand.NewSource(4))
	for _, w := range ways {
		for range 400 {
			b := thrown(dice, dice.Intn(400))
			decodes(t, w, w.code(b), b)
		}
		for range 12 {
			b := thrown(dice, 20000)
			decodes(t, w, w.code(b), b)
		}
		for _, v := range long {
			decodes(t, w, w.code(v.raw), v.raw)
		}
	}
}

func TestP26_3_FewLetters(t *testing.T) {
	for _, w := range ways {
		for i := range 256 {
			for k := i % 5; k < 256; k += 5 {
				b := []byte{byte(i), byte(k), byte(i)}
				decodes(t, w, w.code(b), b)
			}
		}
		for n := range 300 {
			b := make([]byte, n)
			decodes(t, w, w.code(b), b)
		}
	}
}

func TestP26_3_Many(t *testing.T) {
	dice := rand.New(rand.NewSource(5))
	for _, w := range ways {
		for _, b := range [][]byte{make([]byte, 1<<19), made(1<<19, func(i int) int { return i>>9 + dice.Intn(4) })} {
			decodes(t, w, w.code(b), b)
		}
	}
}
