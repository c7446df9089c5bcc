package whole_test

import (
	"bytes"
	"encoding/binary"
	"hash/crc32"
	"math"
	"math/rand"
	"runtime"
	"testing"

	"winepress/api"
	"winepress/block"
	"winepress/choose"
	"winepress/whole"
)

const (
	mostBlock = 1 << 24
	mostTotal = 1 << 40
)

// options is options with so many bytes of a block.
func options(n int) api.Options {
	return api.Options{Block: n, Width: 1, Recipe: 0, Mode: api.Auto}
}

// wrongOptions is options that may not be.
func wrongOptions() []api.Options {
	return []api.Options{
		{}, {Block: 0, Width: 1, Mode: 1}, {Block: -1, Width: 1}, {Block: mostBlock + 1, Width: 1, Mode: 6}, {Block: math.MaxInt, Width: 1},
		{Block: math.MinInt, Width: 1}, {Block: 9, Width: 0}, {Block: 9, Width: 3}, {Block: 9, Width: -1}, {Block: 9, Width: 16},
		{Block: 9, Width: 1, Recipe: -1}, {Block: 9, Width: 1, Recipe: 11}, {Block: 9, Width: 1, Mode: -1}, {Block: 9, Width: 1, Mode: 7},
		{Block: 1<<32 + 1, Width: 1}, {Block: 9, Width: 1, Mode: 256}, {Block: 9, Width: 257}, {Block: 9, Width: 1, Mode: math.MaxInt},
	}
}

// eachWay calls with the options of each width, recipe and mode.
func eachWay(n int, call func(o api.Options)) {
	for _, width := range []int{1, 2, 4, 8} {
		for way := range 11 {
			for mode := range 7 {
				call(api.Options{Block: n, Width: width, Recipe: way, Mode: mode})
			}
		}
	}
}

// joined is pieces one behind the other, in new memory.
func joined(pieces ...[]byte) []byte {
	return bytes.Join(pieces, nil)
}

// headOf is a head's bytes by the document's words.
func headOf(o api.Options) []byte {
	b := append([]byte("WPR1"), byte(o.Width), byte(o.Recipe), byte(o.Mode))
	b = binary.AppendUvarint(b, uint64(o.Block))
	return binary.LittleEndian.AppendUint32(b, crc32.ChecksumIEEE(b))
}

// aheadOf is what stands ahead of a block by the document's words.
func aheadOf(h api.Block) []byte {
	b := binary.AppendUvarint([]byte{byte(h.Mode + 1)}, uint64(h.Raw))
	if h.Mode != 0 {
		b = binary.AppendUvarint(b, uint64(h.Mid))
		b = binary.AppendUvarint(b, uint64(h.Coded))
	}
	return binary.LittleEndian.AppendUint32(b, h.Sum)
}

// storedOf is a stored block of bytes by the document's words.
func storedOf(raw []byte) []byte {
	return append(aheadOf(api.Block{Raw: len(raw), Coded: len(raw), Sum: crc32.ChecksumIEEE(raw)}), raw...)
}

// endOf is an end's bytes by the document's words.
func endOf(total int, sum uint32) []byte {
	return binary.LittleEndian.AppendUint32(binary.AppendUvarint([]byte{0}, uint64(total)), sum)
}

// endBehind is the end of a stream of bytes.
func endBehind(x []byte) []byte {
	return endOf(len(x), crc32.ChecksumIEEE(x))
}

// streamOf is a stream of bytes whose blocks have these lengths, by the document's words.
func streamOf(t *testing.T, o api.Options, x []byte, lengths ...int) []byte {
	t.Helper()
	s, left := headOf(o), x
	for _, n := range lengths {
		b, e := choose.Make(o, left[:n])
		if e != api.OK {
			t.Fatalf("Make of %d bytes by %+v: %d", n, o, e)
		}
		s, left = append(s, b...), left[n:]
	}
	if len(left) > 0 {
		t.Fatalf("%d bytes are left of %d", len(left), len(x))
	}
	return append(s, endBehind(x)...)
}

// lengthsOf is how long the blocks of so many bytes are.
func lengthsOf(n, block int) []int {
	var l []int
	for ; n > block; n -= block {
		l = append(l, block)
	}
	if n > 0 {
		l = append(l, n)
	}
	return l
}

// rises is words of a width that rise by the same each time.
func rises(many, width, by int) []byte {
	var b []byte
	for i := range many {
		v := binary.LittleEndian.AppendUint64(nil, uint64(i*by))
		b = append(b, v[:width]...)
	}
	return b
}

// anyBytes is bytes of which nothing can be told.
func anyBytes(dice *rand.Rand, n int) []byte {
	b := make([]byte, n)
	dice.Read(b)
	return b
}

// samples is bytes of several kinds, and lengths.
func samples() [][]byte {
	dice := rand.New(rand.NewSource(33))
	l := [][]byte{nil, {}, {0}, {255}, []byte("ab"), []byte("abcdef"), make([]byte, 400), bytes.Repeat([]byte("the same, and "), 20)}
	for _, n := range []int{1, 7, 8, 9, 64, 127, 300} {
		l = append(l, anyBytes(dice, n))
	}
	for _, width := range []int{1, 2, 4, 8} {
		l = append(l, rises(50, width, 3), append(rises(40, width, 1<<20+7), 1))
	}
	return l
}

// anyOptions is options of blocks that aren't large.
func anyOptions(dice *rand.Rand) api.Options {
	return api.Options{Block: 1 + dice.Intn(1<<(1+dice.Intn(9))), Width: 1 << dice.Intn(4), Recipe: dice.Intn(11), Mode: dice.Intn(7)}
}

// compresses asks for just these bytes.
func compresses(t *testing.T, o api.Options, x, want []byte) {
	t.Helper()
	if s, e := whole.Compress(o, x); e != api.OK || !bytes.Equal(s, want) {
		t.Errorf("Compress of %d bytes by %+v: %v, %d, not %v", len(x), o, s[:min(len(s), 60)], e, want[:min(len(want), 60)])
	}
}

// tells asks for just these bytes.
func tells(t *testing.T, s []byte, limit int, want []byte) {
	t.Helper()
	if x, e := whole.Decompress(s, limit); e != api.OK || !bytes.Equal(x, want) {
		t.Errorf("Decompress of %v, at most %d: %v, %d, not %v", s[:min(len(s), 60)], limit, x[:min(len(x), 60)], e, want[:min(len(want), 60)])
	}
}

// refuses asks for an error, and nothing beside it.
func refuses(t *testing.T, s []byte, limit int, want api.Errno) {
	t.Helper()
	if x, e := whole.Decompress(s, limit); e != want || x != nil {
		t.Errorf("Decompress of %v, at most %d: %v, %d, not %d", s[:min(len(s), 60)], limit, x[:min(len(x), 60)], e, want)
	}
}

// compressed is a stream of bytes.
func compressed(t *testing.T, o api.Options, x []byte) []byte {
	t.Helper()
	s, e := whole.Compress(o, x)
	if e != api.OK {
		t.Fatalf("Compress of %d bytes by %+v: %d", len(x), o, e)
	}
	return s
}

func TestP33_1_Example(t *testing.T) {
	for _, n := range []int{1, 4, 300, 65536, mostBlock} {
		eachWay(n, func(o api.Options) {
			want := joined(headOf(o), make([]byte, 6))
			compresses(t, o, nil, want)
			compresses(t, o, []byte{}, want)
		})
	}
	if s := compressed(t, options(4), nil); len(s) != 18 || !bytes.Equal(s[12:], make([]byte, 6)) {
		t.Error(s)
	}
}

func TestP33_1_TwoBlocks(t *testing.T) {
	compresses(t, options(4), []byte("abcdef"), joined(
		headOf(options(4)),
		[]byte{1, 4, 0x11, 0xcd, 0x82, 0xed}, []byte("abcd"),
		[]byte{1, 2, 0x70, 0x49, 0x82, 0xfd}, []byte("ef"),
		[]byte{0, 6, 0xef, 0x39, 0x8e, 0x4b},
	))
}

func TestP33_1_Compress(t *testing.T) {
	for _, x := range samples() {
		for _, n := range []int{64, 300} {
			eachWay(n, func(o api.Options) {
				compresses(t, o, x, streamOf(t, o, x, lengthsOf(len(x), n)...))
			})
		}
	}
}

// TestP33_1_Lengths has bytes whose last block is whole, or has one byte, or lacks one.
func TestP33_1_Lengths(t *testing.T) {
	dice := rand.New(rand.NewSource(331))
	for _, n := range []int{1, 2, 3, 10, 127, 128} {
		for mode := range 7 {
			o := api.Options{Block: n, Width: 2, Recipe: 1, Mode: mode}
			for many := range 4 {
				for more := -1; more <= 1; more++ {
					x := anyBytes(dice, max(n*many+more, 0))
					compresses(t, o, x, streamOf(t, o, x, lengthsOf(len(x), n)...))
				}
			}
		}
	}
}

// TestP33_1_RisingWords is the document's fifth example of the whole.
func TestP33_1_RisingWords(t *testing.T) {
	for _, width := range []int{1, 2, 4, 8} {
		for _, by := range []int{1, 3, 250, 65535, 1<<40 + 7} {
			x := rises(4000, width, by)
			o := api.Options{Block: 65536, Width: width, Recipe: 2, Mode: api.Rice}
			s := compressed(t, o, x)
			if width > 1 && len(s) >= 2000 {
				t.Errorf("%d bytes of words of the width %d that rise by %d", len(s), width, by)
			}
			tells(t, s, len(x), x)
		}
	}
}

func TestP33_1_WrongOptions(t *testing.T) {
	for _, o := range wrongOptions() {
		for _, x := range [][]byte{nil, {}, []byte("a"), make([]byte, 99)} {
			if s, e := whole.Compress(o, x); s != nil || e != api.ErrOptions {
				t.Errorf("Compress of %d bytes by %+v: %v, %d", len(x), o, s, e)
			}
		}
	}
}

func TestP33_1_NewMemory(t *testing.T) {
	room := joined(rises(60, 2, 9), bytes.Repeat([]byte{77}, 50))
	x := room[:120]
	kept := bytes.Clone(room)
	eachWay(50, func(o api.Options) {
		want := streamOf(t, o, x, 50, 50, 20)
		s := compressed(t, o, x)
		again := compressed(t, o, x)
		clear(s[:cap(s)])
		if !bytes.Equal(room, kept) {
			t.Fatalf("Compress by %+v changed what it was handed", o)
		}
		if !bytes.Equal(again, want) {
			t.Fatalf("two streams by %+v share memory", o)
		}
	})
}

func TestP33_2_Example(t *testing.T) {
	for _, limit := range []int{math.MinInt, -1, 0, 1, math.MaxInt} {
		tells(t, compressed(t, options(4), nil), limit, nil)
		tells(t, joined(headOf(options(1)), make([]byte, 6)), limit, nil)
	}
}

// TestP33_2_ExamplesOfTheWhole are the document's third and fourth examples of the whole.
func TestP33_2_ExamplesOfTheWhole(t *testing.T) {
	s := compressed(t, options(4), []byte("abcdef"))
	tells(t, s, 6, []byte("abcdef"))
	refuses(t, s, 5, api.ErrLimit)
	refuses(t, append(bytes.Clone(s), 0), 6, api.ErrTrailing)
	refuses(t, s[:len(s)-1], 6, api.ErrTruncated)
	at := bytes.IndexByte(s, 'a')
	for turn := 1; turn < 256; turn++ {
		bad := bytes.Clone(s)
		bad[at] ^= byte(turn)
		refuses(t, bad, 6, api.ErrChecksum)
	}
}

func TestP33_2_HeadsErrors(t *testing.T) {
	refuses(t, nil, 9, api.ErrTruncated)
	refuses(t, []byte{}, 9, api.ErrTruncated)
	refuses(t, []byte("WPR"), 9, api.ErrTruncated)
	refuses(t, []byte("x"), 9, api.ErrMagic)
	refuses(t, []byte("WPR2"), 9, api.ErrMagic)
	h := headOf(options(9))
	for k := range h {
		bad := joined(h, storedOf([]byte("abc")), endBehind([]byte("abc")))
		bad[k] ^= 1
		want := api.ErrHeader
		if k < 4 {
			want = api.ErrMagic
		}
		// What stands behind a head that is wrong, and the limit, play no part.
		refuses(t, bad, 9, want)
		refuses(t, bad, 0, want)
		refuses(t, bad[:len(h):len(h)], 9, want)
		refuses(t, append(bad[:len(h):len(h)], 9, 9), 9, want)
	}
	for _, o := range []api.Options{{Width: 1}, {Block: mostBlock + 1, Width: 1}, {Block: 1, Width: 3}, {Block: 1, Width: 1, Recipe: 11}, {Block: 1, Width: 1, Mode: 7}} {
		refuses(t, joined(headOf(o), endOf(0, 0)), 9, api.ErrHeader)
	}
	refuses(t, joined([]byte{'W', 'P', 'R', '1', 1, 0, 0, 129, 0}, endOf(0, 0)), 9, api.ErrHeader)
}

func TestP33_2_TheEnd(t *testing.T) {
	x := []byte("abc")
	sum := crc32.ChecksumIEEE(x)
	h := headOf(options(9))
	one := joined(h, storedOf(x))
	for _, c := range []struct {
		s    []byte
		want api.Errno
	}{
		{h, api.ErrTruncated},
		{joined(h, []byte{0}), api.ErrTruncated},
		{joined(h, []byte{0, 128}), api.ErrTruncated},
		{joined(h, []byte{0, 128, 0}), api.ErrLength},
		{joined(h, []byte{0, 128, 0, 0, 0, 0, 0}), api.ErrLength},
		{joined(h, []byte{0, 0, 0, 0, 0}), api.ErrTruncated},
		{joined(h, endOf(mostTotal+1, 0)), api.ErrLength},
		{joined(h, endOf(mostTotal, 0)), api.ErrLength},
		// The end is looked at as a whole ahead of what it says.
		{joined(h, endOf(1, 0)[:5]), api.ErrTruncated},
		{joined(h, endOf(1, 0)), api.ErrLength},
		{joined(h, endOf(1, 7)), api.ErrLength},
		{joined(h, endOf(1, 0), []byte{0}), api.ErrLength},
		{joined(h, endOf(0, 7)), api.ErrChecksum},
		{joined(h, endOf(0, 7), []byte{0}), api.ErrChecksum},
		{joined(h, endOf(0, 0), []byte{0}), api.ErrTrailing},
		{joined(h, endOf(0, 0), h, endOf(0, 0)), api.ErrTrailing},
		{joined(h, endOf(0, 0), storedOf(x), endBehind(x)), api.ErrTrailing},
		{one, api.ErrTruncated},
		{joined(one, endOf(3, sum)[:5]), api.ErrTruncated},
		{joined(one, endOf(2, sum)), api.ErrLength},
		{joined(one, endOf(4, sum)), api.ErrLength},
		{joined(one, endOf(0, 0)), api.ErrLength},
		{joined(one, endOf(2, sum+1), []byte{255}), api.ErrLength},
		{joined(one, endOf(3, sum+1)), api.ErrChecksum},
		{joined(one, endOf(3, sum^1<<31)), api.ErrChecksum},
		{joined(one, endOf(3, sum+1), []byte{255}), api.ErrChecksum},
		{joined(one, endOf(3, sum), []byte{255}), api.ErrTrailing},
		// Of more than one block the sum is not the last one's.
		{joined(one, storedOf(x), endOf(6, sum)), api.ErrChecksum},
		{joined(one, storedOf(x), endOf(3, sum)), api.ErrLength},
	} {
		refuses(t, c.s, 9, c.want)
		refuses(t, c.s[:len(c.s):len(c.s)], math.MaxInt, c.want)
	}
	tells(t, joined(one, endOf(3, sum)), 9, x)
	tells(t, joined(one, storedOf(x), endBehind([]byte("abcabc"))), 9, []byte("abcabc"))
}

func TestP33_2_BlocksErrors(t *testing.T) {
	x := []byte("abc")
	h := headOf(options(9))
	other := storedOf(x)
	other[len(other)-1]++
	for _, ahead := range [][]byte{h, joined(h, storedOf(x)), joined(h, storedOf(x), storedOf([]byte("z")))} {
		for tag := 7; tag < 256; tag++ {
			refuses(t, joined(ahead, []byte{byte(tag)}), 99, api.ErrTag)
			refuses(t, joined(ahead, []byte{byte(tag), 3, 1, 0, 0, 0, 5, 6, 7}), 99, api.ErrTag)
		}
		for _, c := range []struct {
			b    []byte
			want api.Errno
		}{
			{[]byte{1}, api.ErrTruncated},
			{[]byte{1, 0}, api.ErrLength},
			{[]byte{1, 10}, api.ErrLength},
			{[]byte{1, 129, 0}, api.ErrLength},
			{[]byte{1, 9, 0, 0, 0}, api.ErrTruncated},
			{[]byte{2, 9, 92}, api.ErrLength},
			{[]byte{2, 9, 91, 9}, api.ErrLength},
			{[]byte{2, 9, 91, 8}, api.ErrTruncated},
			{[]byte{1, 3, 0, 0, 0, 0}, api.ErrTruncated},
			// Of its payload some bytes are not there: neither the sum nor what it says is looked at.
			{[]byte{1, 3, 0, 0, 0, 0, 1, 2}, api.ErrTruncated},
			{[]byte{6, 9, 91, 8, 0, 0, 0, 0, 1, 2, 3, 4, 5, 6, 7}, api.ErrTruncated},
			{[]byte{1, 3, 0, 0, 0, 0, 1, 2, 3}, api.ErrChecksum},
			{other, api.ErrChecksum},
			// It is told ahead of whatever is behind.
			{joined(other, []byte{77}), api.ErrChecksum},
			{joined(other, endOf(1, 1)), api.ErrChecksum},
			{[]byte{3, 9, 9, 0, 0, 0, 0, 0}, api.ErrPayload},
			{[]byte{3, 9, 9, 0, 0, 0, 0, 0, 77}, api.ErrPayload},
			{[]byte{6, 9, 91, 2, 0, 0, 0, 0, 1, 2}, api.ErrPayload},
			{joined(storedOf(x), []byte{77}), api.ErrTag},
			{storedOf(x), api.ErrTruncated},
		} {
			refuses(t, joined(ahead, c.b), 99, c.want)
		}
	}
}

func TestP33_2_Limits(t *testing.T) {
	x := []byte("abcdefghi")
	h := headOf(options(4))
	s := joined(h, storedOf(x[:4]), storedOf(x[4:5]), storedOf(x[5:9]), endBehind(x))
	for limit := range 9 {
		refuses(t, s, limit, api.ErrLimit)
	}
	for _, limit := range []int{9, 10, 1 << 31, 1<<32 + 1, math.MaxInt - 1, math.MaxInt} {
		tells(t, s, limit, x)
	}
	for _, limit := range []int{-1, -9, math.MinInt + 1, math.MinInt} {
		refuses(t, s, limit, api.ErrLimit)
	}
}

// TestP33_2_LimitsPlace has the limit told behind what stands ahead of a block, and ahead of its payload.
func TestP33_2_LimitsPlace(t *testing.T) {
	h := headOf(options(9))
	bad := storedOf([]byte("abc"))
	bad[len(bad)-1]++
	for _, c := range []struct {
		b    []byte
		want api.Errno
	}{
		{nil, api.ErrTruncated},
		{[]byte{7}, api.ErrTag},
		{[]byte{1}, api.ErrTruncated},
		{[]byte{1, 10}, api.ErrLength},
		{[]byte{1, 3, 1, 2, 3}, api.ErrTruncated},
		{[]byte{1, 3, 1, 2, 3, 4}, api.ErrLimit},
		{[]byte{1, 3, 1, 2, 3, 4, 5}, api.ErrLimit},
		{bad, api.ErrLimit},
		{[]byte{3, 9, 9, 0, 0, 0, 0, 0}, api.ErrLimit},
		{[]byte{6, 9, 91, 8, 0, 0, 0, 0, 1, 2}, api.ErrLimit},
	} {
		for _, limit := range []int{math.MinInt, -1, 0, 1, 2} {
			refuses(t, joined(h, c.b), limit, c.want)
		}
		// The bytes of blocks ahead count.
		refuses(t, joined(h, storedOf([]byte("abcdefg")), c.b), 9, c.want)
	}
	// One ahead that is wrong is told first.
	refuses(t, joined(h, bad, storedOf([]byte("abc"))), 5, api.ErrChecksum)
}

// TestP33_2_OtherBlocks has blocks that Compress wouldn't make: of another mode, or shorter, or longer than they must be.
func TestP33_2_OtherBlocks(t *testing.T) {
	x := rises(150, 2, 5)
	eachWay(100, func(o api.Options) {
		s, left := headOf(o), x
		for k, n := range []int{1, 99, 100, 7, 93} {
			by := o
			by.Mode = (o.Mode + k) % 7
			b, e := choose.Make(by, left[:n])
			if e != api.OK {
				t.Fatal(e)
			}
			s, left = append(s, b...), left[n:]
		}
		s = append(s, endBehind(x)...)
		tells(t, s, len(x), x)
		refuses(t, s, len(x)-1, api.ErrLimit)
	})
}

func TestP33_2_TheRoomBehindPlaysNoPart(t *testing.T) {
	s := compressed(t, options(4), []byte("abcdef"))
	for n := range s {
		refuses(t, s[:n], 6, api.ErrTruncated)
		refuses(t, s[:n:n], 6, api.ErrTruncated)
	}
}

// number is the number with which bytes begin, by the document's words: it, what is behind, and what is wrong with it.
func number(b []byte, least, most uint64) (int, []byte, api.Errno) {
	var n uint64
	for k, c := range b {
		if k == 9 && c > 1 || k > 0 && c == 0 {
			return 0, nil, api.ErrLength
		}
		n |= uint64(c&127) << (7 * k)
		if c >= 128 {
			continue
		}
		if n < least || n > most {
			return 0, nil, api.ErrLength
		}
		return int(n), b[k+1:], api.OK
	}
	return 0, nil, api.ErrTruncated
}

// toldBlock is what stands ahead of a block by the document's words, and what is behind.
func toldBlock(s []byte, o api.Options) (h api.Block, left []byte, e api.Errno) {
	h.Mode = int(s[0]) - 1
	if h.Mode > 5 {
		return h, nil, api.ErrTag
	}
	if h.Raw, left, e = number(s[1:], 1, uint64(o.Block)); e != api.OK {
		return h, nil, e
	}
	h.Coded = h.Raw
	if h.Mode != 0 {
		if h.Mid, left, e = number(left, 0, uint64(3*h.Raw+64)); e != api.OK {
			return h, nil, e
		}
		if h.Coded, left, e = number(left, 0, uint64(h.Raw-1)); e != api.OK {
			return h, nil, e
		}
	}
	if len(left) < 4 {
		return h, nil, api.ErrTruncated
	}
	h.Sum = binary.LittleEndian.Uint32(left)
	return h, left[4:], api.OK
}

// toldEnd is what is wrong with the end of a stream of bytes, by the document's words.
func toldEnd(s, x []byte) api.Errno {
	total, left, e := number(s[1:], 0, mostTotal)
	switch {
	case e != api.OK:
		return e
	case len(left) < 4:
		return api.ErrTruncated
	case total != len(x):
		return api.ErrLength
	case binary.LittleEndian.Uint32(left) != crc32.ChecksumIEEE(x):
		return api.ErrChecksum
	case len(left) > 4:
		return api.ErrTrailing
	}
	return api.OK
}

// told is what stands behind a head of these options, by the document's words.
func told(left []byte, o api.Options, limit int) (x []byte, e api.Errno) {
	for {
		switch {
		case len(left) == 0:
			return nil, api.ErrTruncated
		case left[0] == 0:
			if e := toldEnd(left, x); e != api.OK {
				return nil, e
			}
			return x, api.OK
		}
		h, behind, e := toldBlock(left, o)
		switch {
		case e != api.OK:
			return nil, e
		case len(x)+h.Raw > max(limit, 0):
			return nil, api.ErrLimit
		case len(behind) < h.Coded:
			return nil, api.ErrTruncated
		}
		raw, e := choose.Open(o, h, behind[:h.Coded])
		if e != api.OK {
			return nil, e
		}
		x, left = append(x, raw...), behind[h.Coded:]
	}
}

// asTold asks for what the document's words say of what stands behind a head of these options.
func asTold(t *testing.T, o api.Options, behind []byte, limit int) api.Errno {
	t.Helper()
	s := joined(headOf(o), behind)
	x, e := told(behind, o, limit)
	if e == api.OK {
		tells(t, s, limit, x)
	} else {
		refuses(t, s, limit, e)
	}
	// It is valid just of what it tells, if it tells any.
	whatever, e2 := told(behind, o, math.MaxInt/2)
	if whole.Valid(s, whatever) != (e2 == api.OK) || whole.Valid(s, append(whatever[:len(whatever):len(whatever)], 7)) {
		t.Errorf("Valid of %v isn't what it should be", s[:min(len(s), 60)])
	}
	return e
}

// spoilt is bytes of which some are others, are more, or are fewer.
func spoilt(dice *rand.Rand, b []byte) []byte {
	b = bytes.Clone(b)
	for range dice.Intn(3) {
		at := dice.Intn(len(b) + 1)
		switch dice.Intn(6) {
		case 0:
			b = joined(b[:at], anyBytes(dice, 1+dice.Intn(3)), b[at:])
		case 1:
			b = joined(b[:at], b[min(at+1, len(b)):])
		case 2:
			if at < len(b) {
				b[at] = byte(dice.Intn(10))
			}
		case 3:
			if at < len(b) {
				b[at] ^= byte(1 << dice.Intn(8))
			}
		case 4:
			b = b[:len(b)-dice.Intn(min(len(b), 12)+1)]
		case 5:
			b = append(b, byte(dice.Intn(10)))
		}
	}
	return b
}

func TestP33_2_Thrown(t *testing.T) {
	dice := rand.New(rand.NewSource(332))
	l := samples()
	seen := map[api.Errno]int{}
	for range 20000 {
		o := anyOptions(dice)
		x := l[dice.Intn(len(l))]
		x = x[:min(len(x), 5*o.Block)]
		s := compressed(t, o, x)
		limit := len(x) + dice.Intn(40)
		if dice.Intn(10) == 0 {
			limit = dice.Intn(len(x)+9) - 9
		}
		seen[asTold(t, o, spoilt(dice, s[len(headOf(o)):]), limit)]++
	}
	for _, e := range []api.Errno{api.OK, api.ErrTruncated, api.ErrTag, api.ErrLength, api.ErrPayload, api.ErrChecksum, api.ErrLimit, api.ErrTrailing} {
		if seen[e] < 100 {
			t.Errorf("only %d of the error %d", seen[e], e)
		}
	}
}

// TestP33_2_ThrownPieces has blocks, ends and pieces of them one behind the other, in any order.
func TestP33_2_ThrownPieces(t *testing.T) {
	dice := rand.New(rand.NewSource(333))
	for range 20000 {
		o := api.Options{Block: 1 + dice.Intn(40), Width: 1, Recipe: dice.Intn(11), Mode: dice.Intn(7)}
		var b, x []byte
		for range dice.Intn(5) {
			raw := bytes.Repeat([]byte{byte(dice.Intn(256))}, 1+dice.Intn(o.Block))
			made, _ := choose.Make(o, raw)
			b, x = append(b, made...), append(x, raw...)
		}
		end := endOf(len(x)+max(dice.Intn(9)-7, 0), crc32.ChecksumIEEE(x)^uint32(max(dice.Intn(9)-7, 0)))
		b = append(b, end...)
		b = append(b, make([]byte, max(dice.Intn(9)-7, 0))...)
		asTold(t, o, b, len(x)-max(dice.Intn(9)-7, 0))
	}
}

func TestP33_2_ThrownAtAll(t *testing.T) {
	dice := rand.New(rand.NewSource(334))
	for range 20000 {
		o := anyOptions(dice)
		b := anyBytes(dice, dice.Intn(40))
		for k := range b {
			if dice.Intn(3) > 0 {
				b[k] %= 8
			}
		}
		asTold(t, o, b, dice.Intn(100)-5)
		if x, e := whole.Decompress(b, math.MaxInt); x != nil || e < api.ErrTruncated || e > api.ErrTrailing {
			t.Errorf("Decompress of %v: %v, %d", b, x, e)
		}
	}
}

func TestP33_2_MuchClaimed(t *testing.T) {
	h := headOf(options(mostBlock))
	claims := []api.Block{{Raw: mostBlock, Coded: mostBlock}, {Mode: 2, Raw: mostBlock, Mid: 3*mostBlock + 64, Coded: 40}}
	var before, after runtime.MemStats
	runtime.ReadMemStats(&before)
	for _, c := range claims {
		s := joined(h, aheadOf(c), make([]byte, 99))
		refuses(t, s, mostBlock-1, api.ErrLimit)
	}
	refuses(t, joined(h, aheadOf(claims[0]), make([]byte, 99)), math.MaxInt, api.ErrTruncated)
	runtime.ReadMemStats(&after)
	if took := after.TotalAlloc - before.TotalAlloc; took > 1<<20 {
		t.Errorf("%d bytes were taken", took)
	}
}

func TestP33_2_NewMemory(t *testing.T) {
	x := rises(60, 2, 9)
	eachWay(50, func(o api.Options) {
		s := compressed(t, o, x)
		room := joined(s, bytes.Repeat([]byte{77}, 50))
		kept := bytes.Clone(room)
		got, _ := whole.Decompress(room[:len(s)], 120)
		again, _ := whole.Decompress(room[:len(s)], 120)
		clear(got[:cap(got)])
		if !bytes.Equal(room, kept) {
			t.Fatalf("Decompress by %+v changed what it was handed", o)
		}
		clear(room)
		if !bytes.Equal(again, x) {
			t.Fatalf("what came back by %+v shares memory", o)
		}
	})
}

func TestP33_3_Valid(t *testing.T) {
	l := samples()
	for i, x := range l {
		for mode := range 7 {
			s := compressed(t, api.Options{Block: 90, Width: 2, Recipe: 6, Mode: mode}, x)
			for j, y := range l {
				if whole.Valid(s, y) != bytes.Equal(x, y) {
					t.Errorf("Valid of the samples %d and %d by the mode %d isn't what it should be", i, j, mode)
				}
			}
			if whole.Valid(append(s[:len(s):len(s)], 0), x) || whole.Valid(s[:len(s)-1], x) || whole.Valid(s, append(x[:len(x):len(x)], 0)) {
				t.Errorf("valid by the mode %d: %v", mode, s[:min(len(s), 60)])
			}
			if len(x) > 0 && (whole.Valid(s, x[:len(x)-1]) || whole.Valid(s, nil)) {
				t.Errorf("valid of fewer bytes by the mode %d: %v", mode, s[:min(len(s), 60)])
			}
		}
	}
}

func TestP33_3_NoStream(t *testing.T) {
	for _, s := range [][]byte{nil, {}, {0}, []byte("WPR1"), []byte("abc"), make([]byte, 40), headOf(options(9))} {
		// That nothing comes with an error doesn't make it a stream of nothing.
		for _, x := range [][]byte{nil, {}, s, []byte("abc")} {
			if whole.Valid(s, x) {
				t.Errorf("%v is valid of %v", s, x)
			}
		}
	}
	bad := joined(headOf(options(9)), storedOf([]byte("abc")), endBehind([]byte("abd")))
	if whole.Valid(bad, nil) || whole.Valid(bad, []byte("abc")) || whole.Valid(bad, []byte("abd")) {
		t.Error("a stream with another sum is valid")
	}
}

func TestP33_3_NothingIsChanged(t *testing.T) {
	room := bytes.Repeat([]byte("abcdef"), 9)
	kept := bytes.Clone(room)
	s := append(compressed(t, options(4), room[:20]), make([]byte, 20)...)
	whole.Valid(s[:len(s)-20], room[:20])
	whole.Valid(s[:len(s)-20], room[:19])
	if !bytes.Equal(room, kept) || !bytes.Equal(s, append(compressed(t, options(4), room[:20]), make([]byte, 20)...)) {
		t.Error("Valid changed what it was handed")
	}
}

func TestP33_4_RoundTrips(t *testing.T) {
	for _, x := range samples() {
		eachWay(130, func(o api.Options) {
			s := compressed(t, o, x)
			tells(t, s, len(x), x)
			tells(t, s, len(x)+1, x)
			tells(t, s, math.MaxInt, x)
			if !whole.Valid(s, x) {
				t.Errorf("by %+v: it isn't valid of its bytes", o)
			}
			if len(x) > 0 {
				refuses(t, s, len(x)-1, api.ErrLimit)
				refuses(t, s, 0, api.ErrLimit)
				refuses(t, s, -1, api.ErrLimit)
			}
		})
	}
}

func TestP33_4_EachLimit(t *testing.T) {
	dice := rand.New(rand.NewSource(335))
	for range 300 {
		o := anyOptions(dice)
		o.Block = min(o.Block, 40)
		x := anyBytes(dice, dice.Intn(90))
		for k := range x {
			x[k] &= 3
		}
		s := compressed(t, o, x)
		for limit := -1; limit < len(x)+3; limit++ {
			// One below 0 is like 0, which is enough for no bytes.
			if max(limit, 0) < len(x) {
				refuses(t, s, limit, api.ErrLimit)
			} else {
				tells(t, s, limit, x)
			}
		}
	}
}

func TestP33_4_LargeBlocks(t *testing.T) {
	x := joined(rises(mostBlock/8, 8, 5), []byte{1, 2, 3})
	for _, o := range []api.Options{{Block: mostBlock, Width: 8, Recipe: 2, Mode: api.Rice}, {Block: mostBlock, Width: 1, Mode: api.Stored}} {
		s := compressed(t, o, x)
		tells(t, s, len(x), x)
		refuses(t, s, len(x)-1, api.ErrLimit)
		refuses(t, s[:len(s)-1], len(x), api.ErrTruncated)
		h, _, e := block.Get(s[len(headOf(o)):], o)
		if e != api.OK || h.Raw != mostBlock {
			t.Errorf("%+v, %d", h, e)
		}
	}
}

// TestP33_4_AutoIsTheShortest holds what the document's D2 says of it.
func TestP33_4_AutoIsTheShortest(t *testing.T) {
	for _, x := range samples() {
		for way := range 11 {
			for _, width := range []int{1, 4} {
				o := api.Options{Block: 100, Width: width, Recipe: way, Mode: api.Auto}
				least := len(compressed(t, o, x))
				for mode := range 6 {
					o.Mode = mode
					if s := compressed(t, o, x); len(s) < least {
						t.Errorf("by %+v: %d bytes, by Auto %d", o, len(s), least)
					}
				}
			}
		}
	}
}

func TestP33_5_Beginnings(t *testing.T) {
	dice := rand.New(rand.NewSource(336))
	l := samples()
	for range 60 {
		o := anyOptions(dice)
		x := l[dice.Intn(len(l))]
		s := compressed(t, o, x)
		for n := range s {
			refuses(t, s[:n:n], len(x), api.ErrTruncated)
			if n%5 == 0 {
				refuses(t, s[:n], math.MaxInt, api.ErrTruncated)
			}
		}
	}
}

func TestP33_5_Behind(t *testing.T) {
	dice := rand.New(rand.NewSource(337))
	l := samples()
	for range 100 {
		o := anyOptions(dice)
		x := l[dice.Intn(len(l))]
		s := compressed(t, o, x)
		for c := range 9 {
			refuses(t, joined(s, []byte{byte(c)}), len(x), api.ErrTrailing)
		}
		refuses(t, joined(s, anyBytes(dice, 1+dice.Intn(9))), math.MaxInt, api.ErrTrailing)
		refuses(t, joined(s, s), math.MaxInt, api.ErrTrailing)
	}
}

// TestP33_5_OneBitTurned has nothing but a stream's own bytes come back, or an error.
func TestP33_5_OneBitTurned(t *testing.T) {
	for _, x := range [][]byte{nil, []byte("abcdef"), rises(60, 2, 7)} {
		for mode := range 7 {
			o := api.Options{Block: 50, Width: 2, Recipe: 1, Mode: mode}
			s := compressed(t, o, x)
			for at := range s {
				for bit := range 8 {
					bad := bytes.Clone(s)
					bad[at] ^= 1 << bit
					got, e := whole.Decompress(bad, math.MaxInt)
					if e == api.OK && !bytes.Equal(got, x) || e != api.OK && (got != nil || e < api.ErrTruncated || e > api.ErrTrailing) {
						t.Errorf("by the mode %d, the bit %d of %d turned: %d bytes, %d", mode, bit, at, len(got), e)
					}
					if whole.Valid(bad, x) != (e == api.OK) {
						t.Errorf("by the mode %d, the bit %d of %d turned: it is valid, or isn't, but for %d", mode, bit, at, e)
					}
				}
			}
		}
	}
}
