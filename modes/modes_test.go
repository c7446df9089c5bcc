package modes_test

import (
	"bytes"
	"math"
	"math/rand"
	"runtime"
	"slices"
	"strings"
	"testing"

	"winepress/api"
	"winepress/blend"
	"winepress/huff"
	"winepress/modes"
	"winepress/rans"
	"winepress/rice"
)

const most = 1 << 26

var widths = []int{1, 2, 4, 8}

var (
	wrongModes  = []int{-1, -2, -256, math.MinInt, api.Auto, 7, 8, 255, 256, 1 << 32, 1<<32 + 1, math.MaxInt}
	wrongWidths = []int{-1, -2, -4, -8, math.MinInt, 0, 3, 5, 6, 7, 9, 16, 64, 256, 257, 1<<32 + 1, 1<<62 + 4, math.MaxInt}
	wrongMany   = []int{-1, -2, -8, -256, math.MinInt, most + 1, most + 8, 1 << 27, 1 << 32, 1<<32 + 1, 1 << 62, math.MaxInt}
)

// way is what the document says a mode is.
type way struct {
	mode   int
	name   string
	code   func(b []byte, width int) []byte
	decode func(payload []byte, width, n int) ([]byte, api.Errno)
}

// letterwise is a way that hangs on no width.
func letterwise(mode int, name string, code func([]byte) []byte, decode func([]byte, int) ([]byte, api.Errno)) way {
	return way{
		mode, name,
		func(b []byte, _ int) []byte { return code(b) },
		func(payload []byte, _, n int) ([]byte, api.Errno) { return decode(payload, n) },
	}
}

var ways = []way{
	letterwise(0, "stored", slices.Clone, func(payload []byte, n int) ([]byte, api.Errno) {
		if n < 0 || n > most {
			return nil, api.ErrArg
		}
		if len(payload) != n {
			return nil, api.ErrPayload
		}
		return payload, api.OK
	}),
	{1, "rice", rice.Code, rice.Decode},
	letterwise(2, "rans", rans.Code, rans.Decode),
	letterwise(3, "adapt", blend.Adapt, blend.Adapted),
	letterwise(4, "blend", blend.Code, blend.Decode),
	letterwise(5, "huff", huff.Code, huff.Decode),
}

// vectors is bytes of a width, and those that the document's words make of them by each mode.
var vectors = []struct {
	raw   []byte
	width int
	coded [6][]byte
}{
	{nil, 1, [6][]byte{}},
	{[]byte{65}, 1, [6][]byte{
		{65}, {47, 0}, {65, 255, 31, 190, 1, 0, 128, 0, 0}, {64, 255, 255, 191}, {189, 253, 0, 0},
		append(append(make([]byte, 8), 6), make([]byte, 24)...),
	}},
	{[]byte{0}, 2, [6][]byte{
		{0}, {0}, {0, 255, 31, 255, 1, 0, 128, 0, 0}, {0, 0, 0, 0, 0}, {254, 252, 0, 0},
		append([]byte{3}, make([]byte, 32)...),
	}},
	{[]byte{3}, 1, [6][]byte{
		{3}, {6}, {3, 255, 31, 252, 1, 0, 128, 0, 0}, {2, 255, 255, 253}, {251, 253, 0, 0},
		append([]byte{24}, make([]byte, 32)...),
	}},
	{[]byte{3, 0}, 2, [6][]byte{
		{3, 0}, {6}, {0, 255, 15, 2, 255, 15, 252, 1, 2, 0, 8, 0}, nil, nil, nil,
	}},
}

// raws is bytes by each of which something is the fewest, or some are as few.
func raws() [][]byte {
	rising := made(256, func(i int) int { return i })
	return [][]byte{
		nil, {}, {0}, {1}, {255}, {7, 7}, {0, 0, 0, 0, 0, 0, 0, 0}, []byte("abracadabra"), rising,
		make([]byte, 100), make([]byte, 3000), bytes.Repeat([]byte{200}, 500),
		made(2000, func(i int) int { return i % 3 }),
		made(2000, func(i int) int { return i * i / 7 % 97 }),
		made(1024, func(i int) int { return 16 - i%2*(i%5) }),
		made(1023, func(i int) int { return i * (i%4 - 3) * (i%4 - 2) * (i%4 - 1) / 600 }),
		bytes.Repeat([]byte("to be or not to be, that is the question. "), 40),
	}
}

// made is n bytes by a rule.
func made(n int, rule func(i int) int) []byte {
	b := make([]byte, n)
	for i := range b {
		b[i] = byte(rule(i))
	}
	return b
}

// thrown is bytes of one kind: all alike, few letters, some far more often than others, words, any.
func thrown(dice *rand.Rand, n int) []byte {
	kind, base := dice.Intn(7), dice.Intn(256)
	return made(n, func(i int) int {
		switch kind {
		case 0:
			return base
		case 1:
			return base + dice.Intn(3)
		case 2:
			return base + dice.Intn(40)/39*dice.Intn(256)
		case 3:
			return int(dice.NormFloat64() * 20)
		case 4:
			return []int{dice.Intn(256), dice.Intn(4), 0, 0}[i%4]
		case 5:
			return []int{dice.Intn(30), 0, 0, 0, 0, 0, 0, 0}[i%8]
		}
		return dice.Intn(256)
	})
}

// codes asks for just these bytes.
func codes(t *testing.T, mode int, b []byte, width int, want []byte) {
	t.Helper()
	got, e := modes.Code(mode, b, width)
	if e != api.OK || !bytes.Equal(got, want) {
		t.Errorf("Code by %d, %d of %d bytes %v: %v, %d, not %v", mode, width, len(b), b[:min(len(b), 30)], got[:min(len(got), 40)], e, want[:min(len(want), 40)])
	}
}

// decodes asks for just these bytes.
func decodes(t *testing.T, mode int, payload []byte, width int, want []byte) {
	t.Helper()
	got, e := modes.Decode(mode, payload, width, len(want))
	if e != api.OK || !bytes.Equal(got, want) {
		t.Errorf("Decode by %d, %d of %d bytes %v: %d bytes, %d, not %d bytes", mode, width, len(payload), payload[:min(len(payload), 40)], len(got), e, len(want))
	}
}

// refused asks for an error, and nothing.
func refused(t *testing.T, mode int, payload []byte, width, n int, want api.Errno) {
	t.Helper()
	got, e := modes.Decode(mode, payload, width, n)
	if e != want || len(got) != 0 {
		t.Errorf("Decode by %d, %d of %d bytes %v as %d: %d bytes, %d, not %d", mode, width, len(payload), payload[:min(len(payload), 40)], n, len(got), e, want)
	}
}

// asIts asks for what the mode's own layer answers, and tells whether that is bytes.
func asIts(t *testing.T, w way, payload []byte, width, n int) bool {
	t.Helper()
	want, e := w.decode(payload, width, n)
	if e == api.OK {
		decodes(t, w.mode, payload, width, want)
	} else {
		refused(t, w.mode, payload, width, n, e)
	}
	return e == api.OK
}

func TestP27_1_Example(t *testing.T) {
	codes(t, api.Stored, []byte("a"), 1, []byte("a"))
}

func TestP27_1_Vectors(t *testing.T) {
	for _, v := range vectors {
		for mode, coded := range v.coded {
			if coded == nil && len(v.raw) > 0 {
				continue
			}
			codes(t, mode, v.raw, v.width, coded)
			decodes(t, mode, coded, v.width, v.raw)
		}
	}
}

func TestP27_1_EachMode(t *testing.T) {
	for _, w := range ways {
		for _, b := range raws() {
			for _, width := range widths {
				coded := w.code(b, width)
				codes(t, w.mode, b, width, coded)
				decodes(t, w.mode, coded, width, b)
			}
		}
	}
}

// By Rice alone it hangs on the width what comes out.
func TestP27_1_Width(t *testing.T) {
	b := made(64, func(i int) int { return i % 4 / 3 * 9 })
	for _, w := range ways {
		var got [][]byte
		for _, width := range widths {
			coded, _ := modes.Code(w.mode, b, width)
			if !slices.ContainsFunc(got, func(l []byte) bool { return bytes.Equal(l, coded) }) {
				got = append(got, coded)
			}
		}
		want := 1
		if w.mode == api.Rice {
			want = 4
		}
		if len(got) != want {
			t.Error(w.name, len(got))
		}
	}
}

func codeRefused(t *testing.T, mode int, b []byte, width int) {
	t.Helper()
	if got, e := modes.Code(mode, b, width); e != api.ErrArg || len(got) != 0 {
		t.Error(mode, len(b), width, len(got), e)
	}
}

func TestP27_1_WrongArguments(t *testing.T) {
	all := []int{0, 1, 2, 3, 4, 5}
	payloads := [][]byte{nil, {}, {0}, {6}, {65, 255, 31, 190, 1, 0, 128, 0, 0}, make([]byte, 300)}
	for _, payload := range payloads {
		for _, mode := range wrongModes {
			for _, width := range append(slices.Clone(widths), wrongWidths...) {
				codeRefused(t, mode, payload, width)
				for _, n := range append([]int{0, 1, len(payload), most}, wrongMany...) {
					refused(t, mode, payload, width, n, api.ErrArg)
				}
			}
		}
		for _, mode := range all {
			for _, width := range wrongWidths {
				codeRefused(t, mode, payload, width)
				for _, n := range append([]int{0, 1, len(payload), most}, wrongMany...) {
					refused(t, mode, payload, width, n, api.ErrArg) // ErrArg is named first
				}
			}
			for _, width := range widths {
				for _, n := range wrongMany {
					refused(t, mode, payload, width, n, api.ErrArg)
				}
			}
		}
	}
}

func TestP27_1_StoredLength(t *testing.T) {
	b := made(20, func(i int) int { return i })
	for _, width := range widths {
		for size := range b {
			for n := range 40 {
				if n == size {
					decodes(t, api.Stored, b[:size], width, b[:size])
				} else {
					refused(t, api.Stored, b[:size], width, n, api.ErrPayload)
				}
			}
		}
	}
}

// As many bytes as there may be at most, and one more.
func TestP27_1_MostBytes(t *testing.T) {
	b := make([]byte, most+1)
	for _, mode := range []int{api.Stored, api.Rice, api.Rans} {
		coded, e := modes.Code(mode, b[:most], 8)
		if e != api.OK {
			t.Fatal(mode, e)
		}
		got, e := modes.Decode(mode, coded, 8, most)
		if e != api.OK || !bytes.Equal(got, b[:most]) {
			t.Error(mode, len(got), e)
		}
		coded, e = modes.Code(mode, b, 8)
		if e != api.OK {
			t.Error(mode, e)
		}
		refused(t, mode, coded, 8, most+1, api.ErrArg)
	}
}

func TestP27_1_NoBytes(t *testing.T) {
	payloads := [][]byte{nil, {}, {0}, {1}, {0, 0, 0}, {0, 0, 0, 0}, {9, 9, 9, 9}, {0, 0, 0, 0, 0}, {65, 255, 31, 190, 1, 0, 128, 0, 0}}
	for size := 30; size < 40; size++ {
		payloads = append(payloads, append([]byte{3}, make([]byte, size)...), make([]byte, size))
	}
	for _, w := range ways {
		for _, width := range widths {
			many := 0
			for _, payload := range payloads {
				if asIts(t, w, payload, width, 0) {
					many++
				}
			}
			if many < 2 || many > 6 {
				t.Error(w.name, width, many)
			}
		}
	}
}

// Each beginning, but all, ends too early, or is as the mode's own layer says; so with bytes behind.
func TestP27_1_AnotherLength(t *testing.T) {
	for _, w := range ways {
		for _, b := range raws() {
			if len(b) > 300 {
				continue
			}
			for _, width := range widths {
				coded := w.code(b, width)
				for n := range coded {
					refused(t, w.mode, coded[:n], width, len(b), api.ErrPayload)
					refused(t, w.mode, slices.Clip(coded[:n]), width, len(b), api.ErrPayload)
				}
				for _, c := range []byte{0, 1, 255} {
					asIts(t, w, append(slices.Clone(coded), c), width, len(b))
				}
			}
		}
	}
}

func TestP27_1_AnotherMany(t *testing.T) {
	for _, w := range ways {
		for _, b := range raws() {
			for _, width := range widths {
				coded := w.code(b, width)
				for _, n := range []int{0, 1, 2, 3, len(b) - 2, len(b) - 1, len(b) + 1, len(b) + 2, 8 * len(coded), 8*len(coded) - 260, 8*len(coded) - 259, 2*len(b) + 9} {
					if n >= 0 {
						asIts(t, w, coded, width, n)
					}
				}
			}
		}
	}
}

// Whatever the payload: just what the mode's own layer says.
func TestP27_1_AnyBytes(t *testing.T) {
	dice := rand.New(rand.NewSource(1))
	for _, w := range ways {
		many, all := 0, 0
		for range 3000 {
			width := widths[dice.Intn(4)]
			b := thrown(dice, 1+dice.Intn(20))
			payload := w.code(b, width)
			for range dice.Intn(3) {
				k := len(payload) - 1 - dice.Intn(len(payload))*dice.Intn(2)
				payload[k] ^= 1 << dice.Intn(8)
			}
			n := max(0, len(b)+dice.Intn(6)/4-dice.Intn(6)/4)
			all++
			if asIts(t, w, payload, width, n) {
				many++
			}
		}
		if many < all/10 || many > all*9/10 {
			t.Error(w.name, "too few of a kind", many, all)
		}
		for range 3000 {
			payload := make([]byte, dice.Intn(50))
			dice.Read(payload)
			asIts(t, w, payload, widths[dice.Intn(4)], dice.Intn(50))
		}
	}
}

// The fewest bits that a payload may have are not refused, those that have one fewer are.
func TestP27_1_FewestBits(t *testing.T) {
	// One nought for each word, behind counts that are all noughts.
	for _, width := range widths {
		for many := range 200 {
			b := make([]byte, many*width+width-1+1/width)
			coded := rice.Code(b, width)
			decodes(t, api.Rice, coded, width, b)
			refused(t, api.Rice, coded[:len(coded)-1], width, len(b), api.ErrPayload)
		}
	}
	for many := 1; many < 200; many++ {
		b := make([]byte, many)
		coded := huff.Code(b)
		if len(coded) != (256+4+many+7)/8 {
			t.Fatal(many, len(coded))
		}
		decodes(t, api.Huff, coded, 1, b)
		refused(t, api.Huff, coded[:len(coded)-1], 1, many, api.ErrPayload)
	}
}

// grown is how much memory a call takes.
func grown(call func()) uint64 {
	var then, now runtime.MemStats
	runtime.ReadMemStats(&then)
	call()
	runtime.ReadMemStats(&now)
	return now.TotalAlloc - then.TotalAlloc
}

// No room is taken for bytes that are only claimed.
func TestP27_1_MuchClaimed(t *testing.T) {
	for _, w := range ways {
		room := grown(func() {
			for _, width := range widths {
				refused(t, w.mode, nil, width, most, api.ErrPayload)
				refused(t, w.mode, make([]byte, 100), width, most, api.ErrPayload)
				refused(t, w.mode, bytes.Repeat([]byte{255}, 100), width, most, api.ErrPayload)
			}
		})
		if room > 1<<24 {
			t.Error(w.name, room)
		}
	}
}

func TestP27_1_NewMemory(t *testing.T) {
	for _, w := range ways {
		for _, b := range raws()[2:] {
			for _, width := range widths {
				want := w.code(b, width)
				room := append(slices.Clone(b), 1, 2, 3)
				then := slices.Clone(room)
				coded, _ := modes.Code(w.mode, room[:len(b)], width)
				_ = append(coded, 9)
				if !bytes.Equal(room, then) {
					t.Error(w.name, "what is coded is changed", b)
				}
				clear(room)
				if !bytes.Equal(coded, want) {
					t.Error(w.name, "what is coded is in the caller's memory", b)
				}
				room = append(slices.Clone(want), 1, 2, 3)
				then = slices.Clone(room)
				got, _ := modes.Decode(w.mode, room[:len(want)], width, len(b))
				_ = append(got, 9)
				if !bytes.Equal(room, then) {
					t.Error(w.name, "what is decoded is changed", b)
				}
				clear(room)
				if !bytes.Equal(got, b) {
					t.Error(w.name, "what is decoded is in the caller's memory", b)
				}
			}
		}
	}
}

func TestP27_2_Names(t *testing.T) {
	if got := modes.Name(2); got != "rans" {
		t.Error(got)
	}
	for mode, name := range []string{"stored", "rice", "rans", "adapt", "blend", "huff", "auto"} {
		if got := modes.Name(mode); got != name {
			t.Error(mode, got)
		}
		if got, ok := modes.Find(name); got != mode || !ok {
			t.Error(name, got, ok)
		}
	}
}

func TestP27_2_NoNames(t *testing.T) {
	for _, mode := range wrongModes {
		if got := modes.Name(mode); got != "" && mode != api.Auto {
			t.Error(mode, got)
		}
	}
	wrong := []string{"", " ", "0", "2", "none", "Rice", "RICE", "rans ", " rans", "ran", "ranss", "rans\x00", "stored rice", "adapted", "huffman", "auto\n", "aut", "Auto", "bl\xffend", "rıce", strings.Repeat("rice", 1000)}
	for _, name := range wrong {
		if got, ok := modes.Find(name); got != 0 || ok {
			t.Errorf("%q: %d", name, got)
		}
	}
}

// bestOf is the best mode and its bytes, by the document's words, and how many modes are as good.
func bestOf(b []byte, width int) (int, []byte, int) {
	best, fewest, many := 0, []byte(nil), 0
	for _, w := range ways[1:] {
		coded := w.code(b, width)
		if best == 0 || len(coded) < len(fewest) {
			best, fewest, many = w.mode, coded, 0
		}
		if len(coded) == len(fewest) {
			many++
		}
	}
	return best, fewest, many
}

// isBest asks for the best one, and tells which it is, and how many are as good.
func isBest(t *testing.T, b []byte, width int) (int, int) {
	t.Helper()
	want, fewest, many := bestOf(b, width)
	mode, coded, e := modes.Best(b, width)
	if e != api.OK || mode != want || !bytes.Equal(coded, fewest) {
		t.Errorf("Best by %d of %d bytes %v: %d, %d bytes, %d, not %d, %d bytes", width, len(b), b[:min(len(b), 30)], mode, len(coded), e, want, len(fewest))
	}
	return want, many
}

func TestP27_3_OfNothing(t *testing.T) {
	for _, width := range widths {
		for _, b := range [][]byte{nil, {}, make([]byte, 9)[:0]} {
			if mode, coded, e := modes.Best(b, width); mode != api.Rice || len(coded) != 0 || e != api.OK {
				t.Error(width, mode, coded, e)
			}
		}
	}
}

// Never Stored, though all of the others have more bytes.
func TestP27_3_AllAreLonger(t *testing.T) {
	b := made(256, func(i int) int { return 255 - i*37 })
	mode, coded, e := modes.Best(b, 1)
	if e != api.OK || mode == api.Stored || len(coded) <= len(b) {
		t.Error(mode, len(coded), e)
	}
	isBest(t, b, 1)
}

func TestP27_3_Vectors(t *testing.T) {
	for _, v := range []struct {
		raw         []byte
		width, mode int
		coded       []byte
	}{
		{[]byte{0}, 1, api.Rice, []byte{0}},
		{[]byte{65}, 1, api.Rice, []byte{47, 0}},
		{[]byte{3, 0}, 2, api.Rice, []byte{6}},
		{make([]byte, 4000), 1, api.Rans, []byte{0, 255, 31, 255, 1, 0, 128, 0, 0}},
		{bytes.Repeat([]byte{65}, 4000), 2, api.Rans, []byte{65, 255, 31, 190, 1, 0, 128, 0, 0}},
	} {
		mode, coded, e := modes.Best(v.raw, v.width)
		if mode != v.mode || !bytes.Equal(coded, v.coded) || e != api.OK {
			t.Error(len(v.raw), v.width, mode, coded, e)
		}
	}
}

func TestP27_3_EachIsBest(t *testing.T) {
	dice := rand.New(rand.NewSource(2))
	var seen [6]int
	for _, b := range raws() {
		for _, width := range widths {
			mode, _ := isBest(t, b, width)
			seen[mode]++
		}
	}
	for range 400 {
		mode, _ := isBest(t, thrown(dice, 1+dice.Intn(700)), widths[dice.Intn(4)])
		seen[mode]++
	}
	// Many letters, each as often as the others: nothing but their codes' lens is to be known of them.
	for range 20 {
		mode, _ := isBest(t, made(3000, func(int) int { return dice.Intn(128) * 2 }), 1)
		seen[mode]++
	}
	for mode := 1; mode < len(seen); mode++ {
		if seen[mode] == 0 {
			t.Error("never the best one", mode)
		}
	}
}

// Of those that are as short the least mode.
func TestP27_3_AsShort(t *testing.T) {
	dice := rand.New(rand.NewSource(3))
	var seen [6]int
	for range 4000 {
		mode, many := isBest(t, thrown(dice, 1+dice.Intn(40)), widths[dice.Intn(4)])
		if many > 1 {
			seen[mode]++
		}
	}
	for n := range 400 {
		mode, many := isBest(t, make([]byte, n), 1)
		if many > 1 {
			seen[mode]++
		}
	}
	if seen[api.Rice] == 0 || seen[api.Rans]+seen[api.Adapt] == 0 {
		t.Error("never as short", seen)
	}
}

func TestP27_3_WrongWidth(t *testing.T) {
	for _, width := range wrongWidths {
		for _, b := range raws() {
			if mode, coded, e := modes.Best(b, width); mode != 0 || len(coded) != 0 || e != api.ErrArg {
				t.Error(width, mode, len(coded), e)
			}
		}
	}
}

func TestP27_3_NewMemory(t *testing.T) {
	for _, b := range raws() {
		for _, width := range widths {
			_, want, _ := bestOf(b, width)
			room := append(slices.Clone(b), 1, 2, 3)
			then := slices.Clone(room)
			_, coded, _ := modes.Best(room[:len(b)], width)
			_ = append(coded, 9)
			if !bytes.Equal(room, then) {
				t.Error("what is handed in is changed", width, b)
			}
			clear(room)
			if !bytes.Equal(coded, want) {
				t.Error("the answer is in the caller's memory", width, b)
			}
		}
	}
}

func TestP27_4_CodedAndDecoded(t *testing.T) {
	dice := rand.New(rand.NewSource(4))
	for range 600 {
		width, b := widths[dice.Intn(4)], thrown(dice, dice.Intn(400))
		for mode := range ways {
			coded, e := modes.Code(mode, b, width)
			if e != api.OK {
				t.Fatal(mode, e)
			}
			decodes(t, mode, coded, width, b)
		}
		mode, coded, e := modes.Best(b, width)
		if e != api.OK {
			t.Fatal(e)
		}
		decodes(t, mode, coded, width, b)
	}
}

func TestP27_4_Long(t *testing.T) {
	dice := rand.New(rand.NewSource(5))
	for _, width := range widths {
		for range 3 {
			b := thrown(dice, 30000+dice.Intn(8))
			for mode := range ways {
				coded, e := modes.Code(mode, b, width)
				if e != api.OK {
					t.Fatal(mode, e)
				}
				decodes(t, mode, coded, width, b)
			}
		}
	}
}
