package huff_test

import (
	"bytes"
	"math"
	"math/rand"
	"runtime"
	"slices"
	"strings"
	"testing"

	"winepress/api"
	"winepress/huff"
	"winepress/lens"
	"winepress/norm"
)

const (
	letters  = 256
	mostBits = 15
	most     = 1 << 26
)

// pair is bytes, what lens the document says their letters have (letters, and each one's len), and what bits their codes.
type pair struct {
	raw  []byte
	lens []int
	bits string
}

var pairs = []pair{
	{[]byte{0}, some(0, 1), "0"},
	{[]byte{65}, some(65, 1), "0"},
	{[]byte{255}, some(255, 1), "0"},
	{bytes.Repeat([]byte{7}, 1000), some(7, 1), strings.Repeat("0", 1000)},
	{[]byte{0, 255}, some(0, 1, 255, 1), "01"},
	{[]byte{255, 0}, some(0, 1, 255, 1), "10"},
	{[]byte{1, 2, 3}, some(1, 2, 2, 2, 3, 1), "10110"},
	{[]byte{3, 2, 1}, some(1, 2, 2, 2, 3, 1), "01110"},
	{[]byte("abracadabra"), some('a', 1, 'b', 3, 'c', 3, 'd', 3, 'r', 3), "0" + "100" + "111" + "0" + "101" + "0" + "110" + "0" + "100" + "111" + "0"},
	{[]byte("mississippi"), some('i', 2, 'm', 3, 'p', 3, 's', 1), "110" + "10" + "0" + "0" + "10" + "0" + "0" + "10" + "111" + "111" + "10"},
	{append(make([]byte, 20), 1), some(0, 1, 1, 1), strings.Repeat("0", 20) + "1"},
	{[]byte{9, 9, 9, 9, 8, 8, 7, 6}, some(6, 3, 7, 3, 8, 2, 9, 1), "0000" + "1010" + "111" + "110"},
	{[]byte{4, 3, 2, 1, 0}, some(0, 3, 1, 3, 2, 2, 3, 2, 4, 2), "10" + "01" + "00" + "111" + "110"},
}

// wrongMany is how many bytes are not decoded.
var wrongMany = []int{-1, -2, math.MinInt, most + 1, most + 2, 1 << 27, 1 << 32, 1<<32 + 1, 1 << 62, math.MaxInt}

// some is lens that are 0 but where it is said: letters, and the lens there.
func some(l ...int) []int {
	sizes := make([]int, letters)
	for i := 0; i < len(l); i += 2 {
		sizes[l[i]] = l[i+1]
	}
	return sizes
}

// steps is the lens 1 to 15, and 15 once more, of the letters from one on.
func steps(from int) []int {
	sizes := make([]int, letters)
	for k := range mostBits + 1 {
		sizes[from+k] = min(k+1, mostBits)
	}
	return sizes
}

// ahead is the bits of lens.
func ahead(sizes []int) string {
	var s strings.Builder
	for _, size := range sizes {
		if size == 0 {
			s.WriteString("0")
			continue
		}
		s.WriteString("1")
		for k := range 4 { // the lowest first
			s.WriteByte(byte('0' + size>>k&1))
		}
	}
	return s.String()
}

// laid is the bytes of bits, filled up by noughts.
func laid(bits string) []byte {
	b := make([]byte, (len(bits)+7)/8)
	for i, c := range bits {
		if c == '1' {
			b[i/8] |= 1 << (i % 8)
		}
	}
	return b
}

// bitsOf is the bits of bytes.
func bitsOf(b []byte) string {
	var s strings.Builder
	for i := range 8 * len(b) {
		s.WriteByte('0' + b[i/8]>>(i%8)&1)
	}
	return s.String()
}

// coded is what a pair's bytes become.
func (p pair) coded() []byte {
	return laid(ahead(p.lens) + p.bits)
}

// depths is how long codes are by the document's words: what is least is looked for among all that is there.
func depths(counts []int) []int {
	weight, above, gone := []int{}, []int{}, []bool{}
	come := func(w int) int {
		weight, above, gone = append(weight, w), append(above, -1), append(gone, false)
		return len(weight) - 1
	}
	least := func() int {
		found := -1
		for i := range weight {
			if !gone[i] && (found < 0 || weight[i] < weight[found]) {
				found = i
			}
		}
		gone[found] = true
		return found
	}
	var there []int
	for letter, count := range counts {
		if count > 0 {
			come(count)
			there = append(there, letter)
		}
	}
	for range len(there) - 1 {
		a, b := least(), least()
		next := come(weight[a] + weight[b])
		above[a], above[b] = next, next
	}
	sizes := make([]int, len(counts))
	for i, letter := range there {
		for k := above[i]; k >= 0; k = above[k] {
			sizes[letter]++
		}
	}
	if len(there) == 1 {
		sizes[there[0]] = 1
	}
	return sizes
}

// lensOf is letters' lens, of which none is more than 15.
func lensOf(b []byte) []int {
	counts := make([]int, letters)
	for _, c := range b {
		counts[c]++
	}
	for {
		sizes := depths(counts)
		if slices.Max(sizes) <= mostBits {
			return sizes
		}
		for i := range counts {
			counts[i] = (counts[i] + 1) / 2
		}
	}
}

// codesOf is each letter's code of whole lens, as bits, the highest first.
func codesOf(sizes []int) []string {
	codes, code, last := make([]string, len(sizes)), 0, 0
	for size := 1; size <= mostBits; size++ {
		for i, l := range sizes {
			if l != size {
				continue
			}
			if last > 0 {
				code = (code + 1) << (size - last)
			}
			last = size
			for k := size - 1; k >= 0; k-- {
				codes[i] += string(rune('0' + code>>k&1))
			}
		}
	}
	return codes
}

// codedBy is bytes, coded by whole lens.
func codedBy(b []byte, sizes []int) string {
	var s strings.Builder
	s.WriteString(ahead(sizes))
	codes := codesOf(sizes)
	for _, c := range b {
		s.WriteString(codes[c])
	}
	return s.String()
}

// plainly is bytes, coded by the document's words.
func plainly(b []byte) []byte {
	if len(b) == 0 {
		return nil
	}
	return laid(codedBy(b, lensOf(b)))
}

// plainLens is the lens that bits begin with, and how many bits they take; false, if there are none that may be.
func plainLens(bits string) ([]int, int, bool) {
	sizes, at, many, parts := make([]int, letters), 0, 0, 0
	for i := range sizes {
		if at == len(bits) {
			return nil, 0, false
		}
		at++
		if bits[at-1] == '0' {
			continue
		}
		if at+4 > len(bits) {
			return nil, 0, false
		}
		for k := range 4 {
			sizes[i] += int(bits[at+k]-'0') << k
		}
		at += 4
		if sizes[i] == 0 {
			return nil, 0, false
		}
		many++
		parts += 1 << (mostBits - sizes[i])
	}
	return sizes, at, parts == 1<<mostBits || many == 1 && slices.Max(sizes) == 1
}

// plainBack is the n letters that bits tell, by the document's words.
func plainBack(payload []byte, n int) ([]byte, bool) {
	if n == 0 && len(payload) == 0 {
		return nil, true
	}
	bits := bitsOf(payload)
	sizes, at, ok := plainLens(bits)
	if !ok {
		return nil, false
	}
	bits = bits[at:]
	codes := codesOf(sizes)
	b := make([]byte, n)
	for i := range b {
		found := slices.IndexFunc(codes, func(code string) bool { return code != "" && strings.HasPrefix(bits, code) })
		if found < 0 {
			return nil, false
		}
		b[i] = byte(found)
		bits = bits[len(codes[found]):]
	}
	return b, len(bits) < 8 && !strings.Contains(bits, "1")
}

// codes asks for just these bytes.
func codes(t *testing.T, b, want []byte) {
	t.Helper()
	if got := huff.Code(b); !bytes.Equal(got, want) {
		t.Errorf("Code of %d bytes %v: %v, not %v", len(b), b[:min(len(b), 30)], got, want)
	}
}

// decodes asks for just these bytes.
func decodes(t *testing.T, payload, want []byte) {
	t.Helper()
	if got, e := huff.Decode(payload, len(want)); e != api.OK || !bytes.Equal(got, want) {
		t.Errorf("Decode of %d bytes %v: %d bytes %v, %d, not %d bytes", len(payload), payload[:min(len(payload), 60)], len(got), got[:min(len(got), 30)], e, len(want))
	}
}

// refused asks for an error, and nothing.
func refused(t *testing.T, payload []byte, n int, want api.Errno) {
	t.Helper()
	if got, e := huff.Decode(payload, n); e != want || len(got) != 0 {
		t.Errorf("Decode of %d bytes %v as %d: %d bytes, %d, not %d", len(payload), payload[:min(len(payload), 60)], n, len(got), e, want)
	}
}

// thrown is bytes of one kind: all alike, few letters, some far more often than others, any.
func thrown(dice *rand.Rand, n int) []byte {
	b := make([]byte, n)
	kind, base := dice.Intn(6), dice.Intn(letters)
	for i := range b {
		switch kind {
		case 0:
			b[i] = byte(base)
		case 1:
			b[i] = byte(base + dice.Intn(3))
		case 2:
			b[i] = byte(base)
			if dice.Intn(50) == 0 {
				b[i] = byte(dice.Intn(letters))
			}
		case 3:
			b[i] = byte(int(dice.NormFloat64() * 20))
		case 4:
			b[i] = byte(base + int(dice.ExpFloat64()*1.4))
		default:
			b[i] = byte(dice.Intn(letters))
		}
	}
	return b
}

// every is all letters, in order.
func every() []byte {
	b := make([]byte, letters)
	for i := range b {
		b[i] = byte(i)
	}
	return b
}

// growing is letters of which each is there as often as the two ahead together: so their tree is as deep as may be.
func growing(many int) []byte {
	var b []byte
	one, two := 1, 1
	for i := range many {
		b = append(b, bytes.Repeat([]byte{byte(3 * i)}, one)...)
		one, two = two, one+two
	}
	return b
}

func TestP22_1_Example(t *testing.T) {
	codes(t, []byte{0}, append([]byte{3}, make([]byte, 32)...))
}

func TestP22_1_Nothing(t *testing.T) {
	codes(t, nil, nil)
	codes(t, []byte{}, nil)
	codes(t, make([]byte, 9)[:0], nil)
}

func TestP22_1_Code(t *testing.T) {
	for _, p := range pairs {
		codes(t, p.raw, p.coded())
		codes(t, p.raw, plainly(p.raw))
	}
}

// Bytes in full, of letters whose bits are reckoned by hand.
func TestP22_1_InFull(t *testing.T) {
	b := make([]byte, 33)
	b[8] = 3 << 1 // behind 65 noughts a bit 1, and 1 in 4 bits, the lowest first
	codes(t, []byte{65}, b)
	b = make([]byte, 34)
	b[0], b[32] = 3, 3<<3 // the one of 255 is behind 5 bits, and 254 noughts; the codes are behind 264
	b[33] = 2
	codes(t, []byte{0, 255}, b)
	b[33] = 1
	codes(t, []byte{255, 0}, b)
}

func TestP22_1_EachLetter(t *testing.T) {
	for i := range letters {
		codes(t, []byte{byte(i)}, laid(ahead(some(i, 1))+"0"))
		k := (i + 1) % letters
		low, high := byte(min(i, k)), byte(max(i, k))
		codes(t, []byte{low, high, high}, laid(ahead(some(i, 1, k, 1))+"011"))
		codes(t, []byte{high, high, low}, laid(ahead(some(i, 1, k, 1))+"110"))
	}
}

// Of all letters, each as often, each one's code is its own 8 bits, the highest first.
func TestP22_1_AllLetters(t *testing.T) {
	for _, times := range []int{1, 2, 7} {
		b := bytes.Repeat(every(), times)
		slices.Reverse(b)
		var s strings.Builder
		s.WriteString(strings.Repeat("10001", letters))
		for _, c := range b {
			for k := 7; k >= 0; k-- {
				s.WriteByte('0' + c>>k&1)
			}
		}
		codes(t, b, laid(s.String()))
		codes(t, b, plainly(b))
	}
}

// Trees that are too deep: up to 15 bits, and beyond, where counts are halved.
func TestP22_1_LongCodes(t *testing.T) {
	for many := 12; many < 24; many++ {
		b := growing(many)
		codes(t, b, plainly(b))
		if got := slices.Max(lensOf(b)); many <= 16 && got != many-1 || many > 16 && got > mostBits {
			t.Error(many, got)
		}
	}
}

func TestP22_1_Thrown(t *testing.T) {
	dice := rand.New(rand.NewSource(1))
	for range 800 {
		b := thrown(dice, 1+dice.Intn(400))
		codes(t, b, plainly(b))
	}
	b := thrown(dice, 20000)
	codes(t, b, plainly(b))
}

func TestP22_1_NewMemory(t *testing.T) {
	for _, p := range pairs {
		room := append(slices.Clone(p.raw), 1, 2, 3)
		then := slices.Clone(room)
		got := huff.Code(room[:len(p.raw)])
		if !bytes.Equal(room, then) {
			t.Error("what is handed in is changed", p.bits)
		}
		clear(room)
		if !bytes.Equal(got, p.coded()) {
			t.Error("the answer is in the caller's memory", p.bits)
		}
		_ = append(got, 99)
		clear(got)
		codes(t, p.raw, p.coded())
	}
}

func TestP22_2_Decode(t *testing.T) {
	for _, p := range pairs {
		decodes(t, p.coded(), p.raw)
	}
}

func TestP22_2_WrongMany(t *testing.T) {
	for _, n := range wrongMany {
		for _, payload := range [][]byte{nil, {}, {0}, {255}, {1}, make([]byte, 32), pairs[0].coded(), pairs[8].coded()} {
			refused(t, payload, n, api.ErrArg) // ErrArg is named first
		}
	}
}

func TestP22_2_NoLetters(t *testing.T) {
	decodes(t, nil, nil)
	decodes(t, []byte{}, nil)
	// Lens alone, and noughts that fill them up.
	for _, sizes := range [][]int{some(65, 1), some(0, 1, 9, 1), some(1, 2, 2, 2, 3, 1), steps(200), slices.Repeat([]int{8}, letters)} {
		decodes(t, laid(ahead(sizes)), nil)
		refused(t, append(laid(ahead(sizes)), 0), 0, api.ErrPayload)
		refused(t, append(laid(ahead(sizes)), 1), 0, api.ErrPayload)
		for n := len(ahead(sizes)); n%8 != 0; n++ {
			spoilt := laid(ahead(sizes))
			spoilt[n/8] |= 1 << (n % 8)
			refused(t, spoilt, 0, api.ErrPayload)
		}
	}
	for _, payload := range [][]byte{{0}, {1}, {255}, make([]byte, 32), make([]byte, 33), pairs[3].coded(), pairs[8].coded()} {
		refused(t, payload, 0, api.ErrPayload)
	}
}

// Of a letter that is alone, what fills up the last byte is as many more of it.
func TestP22_2_FilledByLetters(t *testing.T) {
	payload := laid(ahead(some(65, 1)))
	for n := range 5 {
		decodes(t, payload, bytes.Repeat([]byte{65}, n))
	}
	refused(t, payload, 5, api.ErrPayload)
	payload = append(payload, 0)
	for n := range 20 {
		if n < 5 || n > 12 {
			refused(t, payload, n, api.ErrPayload)
		} else {
			decodes(t, payload, bytes.Repeat([]byte{65}, n))
		}
	}
}

func TestP22_2_NoLens(t *testing.T) {
	for _, n := range []int{1, 2, 1000, most} {
		refused(t, nil, n, api.ErrPayload)
		refused(t, []byte{}, n, api.ErrPayload)
		for size := range 32 {
			refused(t, make([]byte, size), n, api.ErrPayload)
			refused(t, bytes.Repeat([]byte{255}, size), n, api.ErrPayload)
		}
	}
}

// A len of 0 behind a bit 1 is refused, also where the lens would be whole without it.
func TestP22_2_LenOfNought(t *testing.T) {
	for _, sizes := range [][]int{some(100, 1), some(100, 1, 200, 1), some(0, 2, 1, 2, 255, 1)} {
		for i, size := range sizes {
			if size > 0 {
				continue
			}
			bits := ahead(sizes[:i]) + "10000" + ahead(sizes[i+1:])
			for n := range 4 {
				refused(t, laid(bits+"000"), n, api.ErrPayload)
			}
		}
	}
}

func TestP22_2_LensNotWhole(t *testing.T) {
	for _, sizes := range [][]int{
		make([]int, letters),                                           // no letter
		some(7, 2), some(7, 3), some(7, 15), some(0, 2), some(255, 15), // just one, but not of 1
		some(1, 1, 2, 2), some(1, 2, 2, 2), some(1, 15, 2, 15), some(1, 1, 2, 3, 3, 3), some(1, 2, 2, 2, 3, 2), // too little
		some(1, 1, 2, 1, 3, 1), some(1, 1, 2, 1, 3, 15), some(1, 1, 2, 2, 3, 2, 4, 2), // too much
		some(1, 1, 2, 1, 3, 1, 4, 1), slices.Repeat([]int{7}, letters), // as much twice
		slices.Repeat([]int{9}, letters), slices.Repeat([]int{1}, letters), slices.Repeat([]int{15}, letters),
	} {
		for n := range 9 {
			refused(t, laid(ahead(sizes)), n, api.ErrPayload)
			refused(t, laid(ahead(sizes)+strings.Repeat("0", n)), n, api.ErrPayload)
		}
	}
	more := steps(20)
	decodes(t, laid(codedBy([]byte{35, 34, 20}, more)), []byte{35, 34, 20})
	more[100] = 15
	refused(t, laid(ahead(more)+"0"), 1, api.ErrPayload)
	more[100], more[35] = 0, 0
	refused(t, laid(ahead(more)+"0"), 1, api.ErrPayload)
}

// Of a letter that is alone no code begins with a 1.
func TestP22_2_NoLetterOfACode(t *testing.T) {
	for i := range letters {
		bits := ahead(some(i, 1))
		refused(t, laid(bits+"1"), 1, api.ErrPayload)
		refused(t, laid(bits+"01"), 2, api.ErrPayload)
		refused(t, laid(bits+"001"), 3, api.ErrPayload)
		refused(t, laid(bits+strings.Repeat("1", 40)), 1, api.ErrPayload)
		refused(t, laid(bits+"0001"+strings.Repeat("0", 40)), 44, api.ErrPayload)
	}
}

// Each beginning, but all, ends too early; with a byte behind there are 8 bits or more.
func TestP22_2_AnotherLength(t *testing.T) {
	for _, p := range append(pairs, pair{every(), lensOf(every()), codedBy(every(), lensOf(every()))[5*letters:]}) {
		coded := p.coded()
		decodes(t, coded, p.raw)
		for n := range coded {
			refused(t, coded[:n], len(p.raw), api.ErrPayload)
			refused(t, slices.Clip(coded[:n]), len(p.raw), api.ErrPayload)
		}
		for _, c := range []byte{0, 1, 128, 255} {
			refused(t, append(slices.Clone(coded), c), len(p.raw), api.ErrPayload)
			refused(t, append(slices.Clone(coded), 0, 0, 0, c), len(p.raw), api.ErrPayload)
		}
	}
}

// Bits that fill up the last byte are noughts.
func TestP22_2_Filled(t *testing.T) {
	for _, p := range pairs {
		coded := p.coded()
		for i := len(ahead(p.lens) + p.bits); i < 8*len(coded); i++ {
			spoilt := slices.Clone(coded)
			spoilt[i/8] |= 1 << (i % 8)
			refused(t, spoilt, len(p.raw), api.ErrPayload)
		}
	}
}

func TestP22_2_AnotherMany(t *testing.T) {
	for _, p := range pairs {
		for n := range min(len(p.raw), 40) + 20 {
			if want, ok := plainBack(p.coded(), n); ok {
				decodes(t, p.coded(), want)
			} else {
				refused(t, p.coded(), n, api.ErrPayload)
			}
		}
	}
}

// Lens need not be those that the letters' counts have.
func TestP22_2_OtherLens(t *testing.T) {
	dice := rand.New(rand.NewSource(2))
	for _, sizes := range [][]int{some(1, 1, 2, 2, 3, 2), some(1, 2, 2, 2, 3, 1), slices.Repeat([]int{8}, letters), steps(0), steps(240), some(0, 3, 1, 3, 2, 3, 3, 3, 252, 3, 253, 3, 254, 3, 255, 3)} {
		var there []byte
		for i, size := range sizes {
			if size > 0 {
				there = append(there, byte(i))
			}
		}
		for n := range 60 {
			b := make([]byte, n)
			for i := range b {
				b[i] = there[dice.Intn(len(there))]
			}
			decodes(t, laid(codedBy(b, sizes)), b)
		}
		decodes(t, laid(codedBy(there, sizes)), there)
	}
}

// Whatever the payload: just what the document's words say comes out.
func TestP22_2_AnyBytes(t *testing.T) {
	dice := rand.New(rand.NewSource(3))
	many := 0
	for range 6000 {
		b := thrown(dice, 1+dice.Intn(12))
		payload := huff.Code(b)
		for range dice.Intn(3) {
			k := dice.Intn(len(payload))
			if dice.Intn(2) == 0 {
				k = len(payload) - 1 // the codes are but few of the bytes
			}
			payload[k] ^= 1 << dice.Intn(8)
		}
		n := max(0, len(b)+dice.Intn(6)/4-dice.Intn(6)/4)
		want, ok := plainBack(payload, n)
		if !ok {
			refused(t, payload, n, api.ErrPayload)
			continue
		}
		many++
		decodes(t, payload, want)
	}
	if many < 500 || many > 5500 {
		t.Error("too few of a kind", many)
	}
	for range 3000 {
		payload := make([]byte, dice.Intn(200))
		dice.Read(payload)
		n := dice.Intn(10)
		if want, ok := plainBack(payload, n); ok {
			decodes(t, payload, want)
		} else {
			refused(t, payload, n, api.ErrPayload)
		}
	}
}

// grown is how much memory a call takes.
func grown(call func()) uint64 {
	var then, now runtime.MemStats
	runtime.ReadMemStats(&then)
	call()
	runtime.ReadMemStats(&now)
	return now.TotalAlloc - then.TotalAlloc
}

// No room is taken for letters that are only claimed.
func TestP22_2_MuchClaimed(t *testing.T) {
	room := grown(func() {
		for _, p := range pairs {
			refused(t, nil, most, api.ErrPayload)
			refused(t, p.coded(), most, api.ErrPayload)
			refused(t, append(laid(ahead(p.lens)), make([]byte, 1000)...), most, api.ErrPayload)
		}
	})
	if room > 1<<24 {
		t.Error(room)
	}
}

func TestP22_2_MostLetters(t *testing.T) {
	b := make([]byte, most)
	payload := huff.Code(b)
	if got, e := huff.Decode(payload, most); e != api.OK || !bytes.Equal(got, b) {
		t.Error(len(got), e)
	}
	refused(t, append(payload, 0), most+8, api.ErrArg)
}

func TestP22_2_NewMemory(t *testing.T) {
	for _, p := range pairs {
		coded := p.coded()
		room := append(slices.Clone(coded), 0, 0, 9, 9)
		then := slices.Clone(room)
		got, e := huff.Decode(room[:len(coded)], len(p.raw))
		if e != api.OK || !bytes.Equal(room, then) {
			t.Error("what is handed in is changed", p.bits, e)
		}
		clear(room)
		if !bytes.Equal(got, p.raw) {
			t.Error("the answer is in the caller's memory", p.bits)
		}
		clear(got)
		decodes(t, coded, p.raw)
		// What lies in the room behind the end is not taken.
		refused(t, then[:len(coded)-1], len(p.raw), api.ErrPayload)
	}
}

func TestP22_3_CodedAndDecoded(t *testing.T) {
	dice := rand.New(rand.NewSource(4))
	for range 3000 {
		b := thrown(dice, dice.Intn(300))
		decodes(t, huff.Code(b), b)
	}
	for range 20 {
		b := thrown(dice, 20000)
		decodes(t, huff.Code(b), b)
	}
	for many := range 24 {
		b := growing(many)
		dice.Shuffle(len(b), func(i, k int) { b[i], b[k] = b[k], b[i] })
		decodes(t, huff.Code(b), b)
	}
}

func TestP22_3_FewLetters(t *testing.T) {
	for i := range letters {
		for k := range letters {
			b := []byte{byte(i), byte(k), byte(i)}
			decodes(t, huff.Code(b), b)
		}
	}
	for n := range 300 {
		b := make([]byte, n)
		decodes(t, huff.Code(b), b)
	}
}

// bitsAre asks that the bytes are those of so many bits.
func bitsAre(t *testing.T, b []byte, many int) {
	t.Helper()
	if got := huff.Code(b); len(got) != (many+7)/8 {
		t.Errorf("Code of %d bytes %v: %d bytes, not %d bits", len(b), b[:min(len(b), 30)], len(got), many)
	}
}

func TestP22_4_ManyBits(t *testing.T) {
	dice := rand.New(rand.NewSource(5))
	for range 2000 {
		b := thrown(dice, 1+dice.Intn(500))
		counts, there := norm.Count(b), 0
		for _, count := range counts {
			there += min(count, 1)
		}
		bitsAre(t, b, 256+4*there+lens.Cost(counts, lens.Of(counts)))
	}
	for _, p := range pairs {
		there := 0
		for _, size := range p.lens {
			there += min(size, 1)
		}
		bitsAre(t, p.raw, 256+4*there+len(p.bits))
	}
	bitsAre(t, every(), 256+4*letters+8*letters)
	bitsAre(t, make([]byte, 1000), 256+4+1000)
}
