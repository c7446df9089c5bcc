package rans_test

import (
	"bytes"
	"math"
	"math/rand"
	"runtime"
	"slices"
	"testing"

	"winepress/api"
	"winepress/hist"
	"winepress/norm"
	"winepress/rans"
)

const (
	letters = 256
	whole   = 4096
	most    = 1 << 26
)

// pair is bytes, and those that the document says they are coded as.
type pair struct {
	raw, coded []byte
}

var pairs = []pair{
	{[]byte{65}, []byte{65, 255, 31, 190, 1, 0, 128, 0, 0}},
	{[]byte{0}, []byte{0, 255, 31, 255, 1, 0, 128, 0, 0}},
	{[]byte{255}, []byte{255, 1, 255, 31, 0, 0, 128, 0, 0}},
	{bytes.Repeat([]byte{7}, 1000), []byte{7, 255, 31, 248, 1, 0, 128, 0, 0}},
	{[]byte{0, 255}, []byte{0, 255, 15, 254, 1, 255, 15, 0, 2, 0, 16, 0}},
	{[]byte{255, 0}, []byte{0, 255, 15, 254, 1, 255, 15, 0, 2, 0, 8, 0}},
	{[]byte("abracadabra"), []byte{97, 199, 14, 0, 231, 5, 0, 243, 2, 0, 243, 2, 13, 231, 5, 141, 1, 43, 136, 38, 138, 126, 32}},
	{[]byte{1, 2, 3}, []byte{1, 213, 10, 0, 212, 10, 0, 212, 10, 252, 1, 13, 128, 64, 2}},
	{[]byte{3, 2, 1}, []byte{1, 213, 10, 0, 212, 10, 0, 212, 10, 252, 1, 13, 128, 10, 172}},
	{append(make([]byte, 20), 1), []byte{0, 188, 30, 0, 194, 1, 254, 1, 27, 220, 23, 142}},
	{append([]byte{1}, make([]byte, 20)...), []byte{0, 188, 30, 0, 194, 1, 254, 1, 27, 219, 47, 159}},
	{append(bytes.Repeat([]byte{9}, 300), 200), []byte{9, 242, 31, 190, 1, 12, 55, 1, 152, 219, 23, 0}},
	{append([]byte{200}, bytes.Repeat([]byte{9}, 300)...), []byte{9, 242, 31, 190, 1, 12, 55, 1, 152, 207, 250, 61}},
	{bytes.Repeat([]byte{1, 1, 1, 2}, 3), []byte{1, 255, 23, 0, 255, 7, 253, 1, 1, 170, 43, 200, 0}},
}

// wrongMany is how many bytes are not decoded.
var wrongMany = []int{-1, -2, math.MinInt, most + 1, most + 2, 1 << 27, 1 << 32, 1<<32 + 1, 1 << 62, math.MaxInt}

// shared is the shares of bytes, as Code takes them.
func shared(t *testing.T, b []byte) []int {
	t.Helper()
	shares, e := norm.Norm(norm.Count(b), api.RansBits)
	if e != api.OK {
		t.Fatal(e)
	}
	return shares
}

// some is shares that are 0 but where it is said: places, and the shares there.
func some(l ...int) []int {
	shares := make([]int, letters)
	for i := 0; i < len(l); i += 2 {
		shares[l[i]] = l[i+1]
	}
	return shares
}

// ahead is shares' bytes.
func ahead(t *testing.T, shares []int) []byte {
	t.Helper()
	b, e := hist.Put(shares)
	if e != api.OK {
		t.Fatal(e)
	}
	return b
}

// of is shares, a state and bytes as a payload.
func of(t *testing.T, shares []int, state uint32, more ...byte) []byte {
	t.Helper()
	return append(append(ahead(t, shares), byte(state>>24), byte(state>>16), byte(state>>8), byte(state)), more...)
}

// first is how much of the whole is ahead of a letter: the shares of those that are less.
func first(shares []int, letter int) uint64 {
	sum := 0
	for _, share := range shares[:letter] {
		sum += share
	}
	return uint64(sum)
}

// plainly is bytes, coded by shares, by the document's words.
func plainly(t *testing.T, b []byte, shares []int) []byte {
	t.Helper()
	if len(b) == 0 {
		return nil
	}
	x := uint64(8388608)
	var out []byte
	for i := len(b) - 1; i >= 0; i-- {
		share := uint64(shares[b[i]])
		for x >= share*524288 {
			out = append([]byte{byte(x % 256)}, out...)
			x = x / 256
		}
		x = 4096*(x/share) + first(shares, int(b[i])) + x%share
	}
	return of(t, shares, uint32(x), out...)
}

// plainBack is the letters that come out, by the document's words.
func plainBack(payload []byte, n int) ([]byte, bool) {
	if n == 0 && len(payload) == 0 {
		return nil, true
	}
	shares, size, e := hist.Get(payload, 12)
	left := payload[size:]
	if e != api.OK || len(left) < 4 {
		return nil, false
	}
	x := uint64(left[0])<<24 + uint64(left[1])<<16 + uint64(left[2])<<8 + uint64(left[3])
	if x < 8388608 || x >= 2147483648 {
		return nil, false
	}
	left = left[4:]
	b := make([]byte, n)
	for i := range b {
		letter := 0
		for first(shares, letter+1) <= x%4096 {
			letter++
		}
		b[i] = byte(letter)
		x = uint64(shares[letter])*(x/4096) + x%4096 - first(shares, letter)
		for x < 8388608 {
			if len(left) == 0 {
				return nil, false
			}
			x = 256*x + uint64(left[0])
			left = left[1:]
		}
	}
	return b, x == 8388608 && len(left) == 0
}

// codes asks for just these bytes.
func codes(t *testing.T, b, want []byte) {
	t.Helper()
	if got := rans.Code(b); !bytes.Equal(got, want) {
		t.Errorf("Code of %d bytes %v: %v, not %v", len(b), b[:min(len(b), 30)], got, want)
	}
}

// decodes asks for just these bytes.
func decodes(t *testing.T, payload, want []byte) {
	t.Helper()
	if got, e := rans.Decode(payload, len(want)); e != api.OK || !bytes.Equal(got, want) {
		t.Errorf("Decode of %v: %d bytes %v, %d, not %d bytes", payload, len(got), got[:min(len(got), 30)], e, len(want))
	}
}

// refused asks for an error, and nothing.
func refused(t *testing.T, payload []byte, n int, want api.Errno) {
	t.Helper()
	if got, e := rans.Decode(payload, n); e != want || len(got) != 0 {
		t.Errorf("Decode of %v as %d: %d bytes, %d, not %d", payload, n, len(got), e, want)
	}
}

// thrown is bytes of one kind: all alike, few letters, some far more often than others, any.
func thrown(dice *rand.Rand, n int) []byte {
	b := make([]byte, n)
	kind, base := dice.Intn(5), dice.Intn(letters)
	for i := range b {
		switch kind {
		case 0:
			b[i] = byte(base)
		case 1:
			b[i] = byte(base + dice.Intn(3))
		case 2:
			b[i] = byte(base)
			if dice.Intn(50) == 0 {
				b[i] = byte(dice.Intn(letters))
			}
		case 3:
			b[i] = byte(int(dice.NormFloat64() * 20))
		default:
			b[i] = byte(dice.Intn(letters))
		}
	}
	return b
}

// every is all letters, in order.
func every() []byte {
	b := make([]byte, letters)
	for i := range b {
		b[i] = byte(i)
	}
	return b
}

func TestP18_1_Example(t *testing.T) {
	codes(t, []byte{65}, []byte{65, 255, 31, 190, 1, 0, 128, 0, 0})
}

func TestP18_1_Nothing(t *testing.T) {
	codes(t, nil, nil)
	codes(t, []byte{}, nil)
	codes(t, make([]byte, 9)[:0], nil)
}

func TestP18_1_Code(t *testing.T) {
	for _, p := range pairs {
		codes(t, p.raw, p.coded)
		codes(t, p.raw, plainly(t, p.raw, shared(t, p.raw)))
	}
	codes(t, every(), plainly(t, every(), slices.Repeat([]int{16}, letters)))
}

func TestP18_1_EachLetter(t *testing.T) {
	for i := range letters {
		codes(t, []byte{byte(i)}, plainly(t, []byte{byte(i)}, some(i, whole)))
		two := []byte{byte(i), byte(i + 1)}
		codes(t, two, plainly(t, two, some(i, whole/2, (i+1)%letters, whole/2)))
	}
}

func TestP18_1_Thrown(t *testing.T) {
	dice := rand.New(rand.NewSource(1))
	for range 1500 {
		b := thrown(dice, 1+dice.Intn(300))
		codes(t, b, plainly(t, b, shared(t, b)))
	}
	b := thrown(dice, 20000)
	codes(t, b, plainly(t, b, shared(t, b)))
}

func TestP18_1_NewMemory(t *testing.T) {
	for _, p := range pairs {
		room := append(slices.Clone(p.raw), 1, 2, 3)
		then := slices.Clone(room)
		got := rans.Code(room[:len(p.raw)])
		if !bytes.Equal(room, then) {
			t.Error("what is handed in is changed", p.coded)
		}
		clear(room)
		if !bytes.Equal(got, p.coded) {
			t.Error("the answer is in the caller's memory", p.coded)
		}
		_ = append(got, 99)
		clear(got)
		codes(t, p.raw, p.coded)
	}
}

func TestP18_2_Decode(t *testing.T) {
	for _, p := range pairs {
		decodes(t, p.coded, p.raw)
	}
}

func TestP18_2_WrongMany(t *testing.T) {
	for _, n := range wrongMany {
		for _, payload := range [][]byte{nil, {}, {0}, {255}, pairs[0].coded, pairs[6].coded} {
			refused(t, payload, n, api.ErrArg) // ErrArg is named first
		}
	}
}

func TestP18_2_NoLetters(t *testing.T) {
	decodes(t, nil, nil)
	decodes(t, []byte{}, nil)
	// Behind the last one of no letters the state is the one that is there.
	decodes(t, of(t, some(65, whole), 1<<23), nil)
	decodes(t, of(t, some(0, 1, 9, whole-1), 1<<23), nil)
	refused(t, of(t, some(65, whole), 1<<23+1), 0, api.ErrPayload)
	refused(t, of(t, some(65, whole), 1<<24), 0, api.ErrPayload)
	refused(t, of(t, some(65, whole), 1<<23, 0), 0, api.ErrPayload)
	refused(t, append(ahead(t, some(65, whole)), 128, 0, 0), 0, api.ErrPayload) // three bytes
	for _, payload := range [][]byte{{0}, {65}, {255}, {0, 128, 0, 0}, pairs[0].coded[:8], pairs[4].coded, pairs[6].coded} {
		refused(t, payload, 0, api.ErrPayload)
	}
}

func TestP18_2_NoShares(t *testing.T) {
	for _, n := range []int{1, 2, 1000, most} {
		refused(t, nil, n, api.ErrPayload)
		refused(t, []byte{}, n, api.ErrPayload)
		refused(t, []byte{0, 128, 0, 0}, n, api.ErrPayload)
		refused(t, of(t, make([]int, letters), 1<<23), n, api.ErrPayload)
		for _, share := range []int{1, 16, whole / 2, whole - 1, whole + 1, 2 * whole, 65536} {
			refused(t, of(t, some(65, share), 1<<23), n, api.ErrPayload)
		}
		refused(t, append([]byte{65, 255, 31, 191, 1}, 0, 128, 0, 0), n, api.ErrPayload)     // of 257 letters
		refused(t, append([]byte{65, 255, 31, 189, 1}, 0, 128, 0, 0), n, api.ErrPayload)     // of 255
		refused(t, append([]byte{193, 0, 255, 31, 190, 1}, 0, 128, 0, 0), n, api.ErrPayload) // in another form
	}
}

// Each beginning, but all, ends too early; with a byte behind there is one that isn't taken.
func TestP18_2_AnotherLength(t *testing.T) {
	for _, p := range append(pairs, pair{every(), rans.Code(every())}) {
		for n := range p.coded {
			refused(t, p.coded[:n], len(p.raw), api.ErrPayload)
			refused(t, slices.Clip(p.coded[:n]), len(p.raw), api.ErrPayload)
		}
		for _, c := range []byte{0, 1, 128, 255} {
			refused(t, append(slices.Clone(p.coded), c), len(p.raw), api.ErrPayload)
			refused(t, append(slices.Clone(p.coded), 0, 128, 0, c), len(p.raw), api.ErrPayload)
		}
	}
}

func TestP18_2_AnotherMany(t *testing.T) {
	for _, p := range pairs[4:] {
		for n := range len(p.raw) + 50 {
			if n != len(p.raw) {
				refused(t, p.coded, n, api.ErrPayload)
			}
		}
	}
}

// A state that may not be is refused, also where letters would come out, and all else be right.
func TestP18_2_WrongState(t *testing.T) {
	halves := some(1, whole/2, 2, whole/2)
	decodes(t, of(t, halves, 1<<24), []byte{1})
	refused(t, of(t, halves, 1<<16, 0), 1, api.ErrPayload)
	refused(t, of(t, halves, 0, 128, 0), 1, api.ErrPayload)
	small := some(1, 16, 2, whole-16)
	refused(t, of(t, small, 1<<31), 1, api.ErrPayload)
	decodes(t, of(t, small, 1<<23, 0), []byte{1})
	alone := some(1, whole)
	for _, state := range []uint32{0, 1, 1 << 16, 1<<23 - 1, 1<<23 + 1, 1<<31 - 1, 1 << 31, 1<<31 + 1<<23, 1<<32 - 1} {
		for n := range 3 {
			refused(t, of(t, alone, state), n, api.ErrPayload)
			refused(t, of(t, alone, state, 0), n, api.ErrPayload)
		}
	}
}

// Behind the last letter the state is what it was at first.
func TestP18_2_AnotherEnd(t *testing.T) {
	halves := some(1, whole/2, 2, whole/2)
	for state := uint32(1<<24 - 5000); state < 1<<24+5000; state++ {
		payload := of(t, halves, state)
		if state == 1<<24 || state == 1<<24+whole/2 {
			decodes(t, payload, []byte{byte(1 + (state-1<<24)/(whole/2))})
			continue
		}
		refused(t, payload, 1, api.ErrPayload)
	}
	for c := range letters {
		payload := of(t, some(1, 16, 2, whole-16), 1<<23, byte(c))
		if c == 0 {
			decodes(t, payload, []byte{1})
			continue
		}
		refused(t, payload, 1, api.ErrPayload)
	}
}

// Shares need not be those of the letters that come out.
func TestP18_2_OtherShares(t *testing.T) {
	dice := rand.New(rand.NewSource(2))
	for _, shares := range [][]int{some(1, 1, 2, whole-1), some(1, whole-1, 2, 1), some(0, 16, 1, 1, 2, 2047, 255, 2032), slices.Repeat([]int{16}, letters)} {
		for n := range 60 {
			b := make([]byte, n)
			for i := range b {
				b[i] = byte(1 + dice.Intn(2))
			}
			decodes(t, plainly(t, b, shares), b)
		}
	}
}

// Whatever the payload: just what the document's words say comes out.
func TestP18_2_AnyBytes(t *testing.T) {
	dice := rand.New(rand.NewSource(3))
	many := 0
	for range 6000 {
		b := thrown(dice, 1+dice.Intn(12))
		payload := rans.Code(b)
		for range dice.Intn(3) {
			payload[dice.Intn(len(payload))] ^= 1 << dice.Intn(8)
		}
		n := max(0, len(b)+dice.Intn(6)/4-dice.Intn(6)/4)
		want, ok := plainBack(payload, n)
		if !ok {
			refused(t, payload, n, api.ErrPayload)
			continue
		}
		many++
		decodes(t, payload, want)
	}
	if many < 500 || many > 5500 {
		t.Error("too few of a kind", many)
	}
	for range 3000 {
		payload := make([]byte, dice.Intn(30))
		dice.Read(payload)
		refused(t, payload, 1+dice.Intn(100), api.ErrPayload)
	}
}

// grown is how much memory a call takes.
func grown(call func()) uint64 {
	var then, now runtime.MemStats
	runtime.ReadMemStats(&then)
	call()
	runtime.ReadMemStats(&now)
	return now.TotalAlloc - then.TotalAlloc
}

// No room is taken for letters that are only claimed.
func TestP18_2_MuchClaimed(t *testing.T) {
	room := grown(func() {
		for _, p := range pairs[4:] {
			refused(t, p.coded, most, api.ErrPayload)
		}
		refused(t, of(t, some(1, 1, 2, whole-1), 1<<23), most, api.ErrPayload)
	})
	if room > 1<<24 {
		t.Error(room)
	}
	got, e := rans.Decode(of(t, some(65, whole), 1<<23), most)
	if e != api.OK || len(got) != most || bytes.Count(got, []byte{65}) != most {
		t.Error(len(got), e)
	}
}

func TestP18_2_NewMemory(t *testing.T) {
	for _, p := range pairs {
		room := append(slices.Clone(p.coded), 9, 9, 9, 9)
		then := slices.Clone(room)
		got, e := rans.Decode(room[:len(p.coded)], len(p.raw))
		if e != api.OK || !bytes.Equal(room, then) {
			t.Error("what is handed in is changed", p.coded, e)
		}
		clear(room)
		if !bytes.Equal(got, p.raw) {
			t.Error("the answer is in the caller's memory", p.coded)
		}
		clear(got)
		decodes(t, p.coded, p.raw)
		// What lies in the room behind the end is not taken.
		refused(t, then[:len(p.coded)-1], len(p.raw), api.ErrPayload)
	}
}

func TestP18_3_CodedAndDecoded(t *testing.T) {
	dice := rand.New(rand.NewSource(4))
	decodes(t, rans.Code(nil), nil)
	for range 2000 {
		b := thrown(dice, dice.Intn(600))
		decodes(t, rans.Code(b), b)
	}
	for range 20 {
		b := thrown(dice, 1<<16+dice.Intn(1<<16))
		decodes(t, rans.Code(b), b)
	}
}

func TestP18_3_AllShortOnes(t *testing.T) {
	for a := range letters {
		for _, b := range []int{0, 1, a, a + 1, 127, 128, 254, 255} {
			raw := []byte{byte(a), byte(b)}
			decodes(t, rans.Code(raw), raw)
		}
	}
	for v := range 3 * 3 * 3 * 3 * 3 * 3 * 3 * 3 {
		raw := make([]byte, 8)
		for i := range raw {
			raw[i], v = byte(100*(v%3)), v/3
		}
		decodes(t, rans.Code(raw), raw)
	}
}

// Letters that are so rare that they have but one of the shares.
func TestP18_3_RareOnes(t *testing.T) {
	b := bytes.Repeat([]byte{0}, 1<<20)
	for i := range letters {
		b[i*4000] = byte(i)
	}
	codes(t, b[:8000], plainly(t, b[:8000], shared(t, b[:8000])))
	decodes(t, rans.Code(b), b)
}

func TestP18_4_AllTheSame(t *testing.T) {
	for _, n := range []int{1, 2, 3, 255, 256, 4095, 4096, 4097, 65536, 1 << 20} {
		for _, c := range []byte{0, 1, 65, 127, 128, 254, 255} {
			b := bytes.Repeat([]byte{c}, n)
			payload := append(ahead(t, some(int(c), whole)), 0, 128, 0, 0)
			codes(t, b, payload)
			decodes(t, payload, b)
		}
	}
}
