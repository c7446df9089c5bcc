package block_test

import (
	"bytes"
	"encoding/binary"
	"math"
	"math/rand"
	"testing"

	"winepress/api"
	"winepress/block"
)

const (
	mostBlock = 1 << 24
	mostTotal = 1 << 40
)

// options is options with so many bytes of a block.
func options(n int) api.Options {
	return api.Options{Block: n, Width: 1, Recipe: 0, Mode: api.Auto}
}

// laid is a first byte, numbers, and a sum behind them.
func laid(tag byte, sum uint32, numbers ...int) []byte {
	b := []byte{tag}
	for _, n := range numbers {
		b = binary.AppendUvarint(b, uint64(n))
	}
	return binary.LittleEndian.AppendUint32(b, sum)
}

// bytesOf is a block's bytes by the document's words.
func bytesOf(h api.Block) []byte {
	if h.Mode == 0 {
		return laid(1, h.Sum, h.Raw)
	}
	return laid(byte(h.Mode+1), h.Sum, h.Raw, h.Mid, h.Coded)
}

// mayBe tells whether a block may be, by the document's words.
func mayBe(h api.Block, o api.Options) bool {
	if h.Mode < 0 || h.Mode > 5 || h.Raw < 1 || h.Raw > o.Block {
		return false
	}
	if h.Mode == 0 {
		return h.Mid == 0 && h.Coded == h.Raw
	}
	return h.Mid >= 0 && h.Mid <= 3*h.Raw+64 && h.Coded >= 0 && h.Coded <= h.Raw-1
}

// each calls with blocks of numbers at their edges, with many that may not be among them.
func each(call func(h api.Block, o api.Options)) {
	for _, most := range []int{1, 2, 127, 128, 300, 65536, mostBlock - 1, mostBlock} {
		for mode := -1; mode <= 7; mode++ {
			for _, raw := range []int{math.MinInt, -1, 0, 1, 2, 127, 128, 129, 16384, most - 1, most, most + 1, 1 << 32, 1<<32 + 1, math.MaxInt} {
				for _, mid := range []int{math.MinInt, -1, 0, 1, raw, 3*raw + 63, 3*raw + 64, 3*raw + 65, 1<<32 + 1, math.MaxInt} {
					for _, coded := range []int{math.MinInt, -1, 0, 1, raw - 2, raw - 1, raw, raw + 1, 1 << 32, math.MaxInt} {
						call(api.Block{Mode: mode, Raw: raw, Mid: mid, Coded: coded, Sum: 0x89abcdef}, options(most))
					}
				}
			}
		}
	}
}

// eachThatMay calls with those that may be.
func eachThatMay(call func(h api.Block, o api.Options)) {
	each(func(h api.Block, o api.Options) {
		if mayBe(h, o) {
			call(h, o)
		}
	})
}

// gets asks for just this block, and this size.
func gets(t *testing.T, b []byte, o api.Options, h api.Block, size int) {
	t.Helper()
	if got, n, e := block.Get(b, o); got != h || n != size || e != api.OK {
		t.Errorf("Get of %v by %d: %+v, %d, %d, not %+v, %d", b[:min(len(b), 30)], o.Block, got, n, e, h, size)
	}
}

// refuses asks for an error, and nothing beside it.
func refuses(t *testing.T, b []byte, o api.Options, e api.Errno) {
	t.Helper()
	if got, n, f := block.Get(b, o); got != (api.Block{}) || n != 0 || f != e {
		t.Errorf("Get of %v by %d: %+v, %d, %d, not %d", b[:min(len(b), 30)], o.Block, got, n, f, e)
	}
}

// getsEnd asks for just this end, and this size.
func getsEnd(t *testing.T, b []byte, total int, sum uint32, size int) {
	t.Helper()
	if n, s, k, e := block.GetEnd(b); n != total || s != sum || k != size || e != api.OK {
		t.Errorf("GetEnd of %v: %d, %d, %d, %d, not %d, %d, %d", b[:min(len(b), 30)], n, s, k, e, total, sum, size)
	}
}

// refusesEnd asks for an error, and nothing beside it.
func refusesEnd(t *testing.T, b []byte, e api.Errno) {
	t.Helper()
	if n, s, k, f := block.GetEnd(b); n != 0 || s != 0 || k != 0 || f != e {
		t.Errorf("GetEnd of %v: %d, %d, %d, %d, not %d", b[:min(len(b), 30)], n, s, k, f, e)
	}
}

// otherForms is numbers that are laid in another form.
func otherForms() [][]byte {
	return [][]byte{
		{128, 0}, {129, 0}, {255, 0}, {128, 128, 0}, {129, 128, 128, 0}, {133, 128, 0},
		{128, 128, 128, 128, 128, 128, 128, 128, 128, 0}, {128, 128, 128, 128, 128, 128, 128, 128, 128, 2},
		{255, 255, 255, 255, 255, 255, 255, 255, 255, 255}, {129, 128, 128, 128, 128, 128, 128, 128, 128, 128},
	}
}

// behind is bytes, with others behind them in new memory.
func behind(b []byte, more ...byte) []byte {
	return append(bytes.Clone(b), more...)
}

func TestP30_1_Example(t *testing.T) {
	h := api.Block{Mode: 0, Raw: 3, Coded: 3, Sum: 1}
	if b := block.Put(h); !bytes.Equal(b, []byte{1, 3, 1, 0, 0, 0}) {
		t.Error(b)
	}
	if e := block.Check(h, options(3)); e != api.OK {
		t.Error(e)
	}
	if e := block.Check(h, options(2)); e != api.ErrLength {
		t.Error(e)
	}
}

func TestP30_1_Vectors(t *testing.T) {
	for _, c := range []struct {
		h api.Block
		b []byte
	}{
		{api.Block{Mode: 0, Raw: 1, Coded: 1}, []byte{1, 1, 0, 0, 0, 0}},
		{api.Block{Mode: 1, Raw: 1}, []byte{2, 1, 0, 0, 0, 0, 0, 0}},
		{api.Block{Mode: 5, Raw: 300, Mid: 128, Coded: 299, Sum: 0x01020304}, []byte{6, 172, 2, 128, 1, 171, 2, 4, 3, 2, 1}},
		{api.Block{Mode: 3, Raw: mostBlock, Mid: 3*mostBlock + 64, Coded: mostBlock - 1, Sum: 0xfffefdfc},
			[]byte{4, 128, 128, 128, 8, 192, 128, 128, 24, 255, 255, 255, 7, 252, 253, 254, 255}},
	} {
		if b := block.Put(c.h); !bytes.Equal(b, c.b) {
			t.Errorf("Put of %+v: %v, not %v", c.h, b, c.b)
		}
		gets(t, c.b, options(mostBlock), c.h, len(c.b))
	}
}

func TestP30_1_Check(t *testing.T) {
	each(func(h api.Block, o api.Options) {
		want := api.ErrLength
		if mayBe(h, o) {
			want = api.OK
		}
		if e := block.Check(h, o); e != want {
			t.Errorf("Check of %+v by %d: %d, not %d", h, o.Block, e, want)
		}
	})
}

func TestP30_1_FromAndAtPlayNoPart(t *testing.T) {
	for _, n := range []int{math.MinInt, -1, 0, 1, 9, math.MaxInt} {
		for _, h := range []api.Block{{Raw: 3, Coded: 3, Sum: 7}, {Mode: 2, Raw: 3, Mid: 4, Coded: 2, Sum: 7}} {
			want := bytesOf(h)
			h.From, h.At = n, -n
			if e := block.Check(h, options(3)); e != api.OK {
				t.Errorf("Check of %+v: %d", h, e)
			}
			if b := block.Put(h); !bytes.Equal(b, want) {
				t.Errorf("Put of %+v: %v", h, b)
			}
			h.Coded = 4
			if e := block.Check(h, options(3)); e != api.ErrLength {
				t.Errorf("Check of %+v: %d", h, e)
			}
		}
	}
}

func TestP30_1_Put(t *testing.T) {
	eachThatMay(func(h api.Block, o api.Options) {
		if b := block.Put(h); !bytes.Equal(b, bytesOf(h)) {
			t.Errorf("Put of %+v: %v, not %v", h, b, bytesOf(h))
		}
	})
}

func TestP30_1_MayNotBeEnds(t *testing.T) {
	each(func(h api.Block, o api.Options) {
		block.Put(h)
	})
	block.Put(api.Block{Mode: math.MaxInt, Raw: math.MinInt, Mid: math.MinInt, Coded: math.MinInt})
	block.Put(api.Block{Mode: math.MinInt})
}

func TestP30_1_NewMemory(t *testing.T) {
	h := api.Block{Mode: 2, Raw: 200, Mid: 300, Coded: 150, Sum: 9}
	b := block.Put(h)
	clear(b[:cap(b)])
	if b := block.Put(h); !bytes.Equal(b, bytesOf(h)) {
		t.Error(b)
	}
}

func TestP30_2_Tags(t *testing.T) {
	refuses(t, nil, options(9), api.ErrTruncated)
	refuses(t, []byte{}, options(9), api.ErrTruncated)
	for c := range 256 {
		want := api.ErrTag
		if c >= 1 && c <= 6 {
			want = api.ErrTruncated
		}
		// Of a tag that is none nothing else is needed.
		refuses(t, []byte{byte(c)}, options(9), want)
		if want == api.ErrTag {
			refuses(t, laid(byte(c), 0, 3, 3, 2), options(9), want)
			refuses(t, []byte{byte(c), 255, 255, 255, 255, 255, 255, 255, 255, 255, 255, 255}, options(9), want)
		}
	}
	gets(t, laid(1, 5, 3), options(9), api.Block{Mode: 0, Raw: 3, Coded: 3, Sum: 5}, 6)
	for mode := 1; mode <= 5; mode++ {
		gets(t, laid(byte(mode+1), 5, 3, 4, 2), options(9), api.Block{Mode: mode, Raw: 3, Mid: 4, Coded: 2, Sum: 5}, 8)
	}
}

func TestP30_2_OtherForms(t *testing.T) {
	// ahead of the number that is laid in another form there is what may be
	for _, begin := range [][]byte{{1}, {2}, {6}, {2, 200, 1}, {6, 200, 1}, {3, 200, 1, 9}, {4, 200, 1, 200, 1}} {
		for _, form := range otherForms() {
			b := behind(begin, form...)
			for end := range len(b) {
				refuses(t, b[:end], options(mostBlock), api.ErrTruncated)
			}
			refuses(t, b, options(mostBlock), api.ErrLength)
			refuses(t, b[:len(b):len(b)], options(mostBlock), api.ErrLength)
			refuses(t, behind(b, 1, 1, 1, 1, 1, 1, 1), options(mostBlock), api.ErrLength)
		}
	}
}

// tooGreat asks that numbers behind a beginning are refused, as soon as they are all there.
func tooGreat(t *testing.T, o api.Options, begin []byte, numbers ...uint64) {
	t.Helper()
	for _, n := range numbers {
		b := binary.AppendUvarint(bytes.Clone(begin), n)
		for end := range len(b) {
			refuses(t, b[:end], o, api.ErrTruncated)
		}
		refuses(t, b, o, api.ErrLength)
		refuses(t, behind(b, 0, 0, 0, 0, 0, 0, 0), o, api.ErrLength)
	}
}

func TestP30_2_MayNotBe(t *testing.T) {
	for _, most := range []int{1, 5, 127, 128, mostBlock - 1, mostBlock} {
		o, m := options(most), uint64(most)
		great := []uint64{1<<31 - 1, 1 << 32, 1<<32 + 1, 1<<63 - 1, 1 << 63, 1<<63 + 1, math.MaxUint64}
		for tag := byte(1); tag <= 6; tag++ {
			tooGreat(t, o, []byte{tag}, append(great, 0, m+1, m+2)...)
		}
		for tag := byte(2); tag <= 6; tag++ {
			ahead := binary.AppendUvarint([]byte{tag}, m)
			tooGreat(t, o, ahead, append(great, 3*m+65, 3*m+66)...)
			for _, mid := range []uint64{0, m, 3*m + 64} {
				tooGreat(t, o, binary.AppendUvarint(bytes.Clone(ahead), mid), append(great, m, m+1)...)
			}
		}
	}
	// How many there may be hangs on Raw, not on Block.
	tooGreat(t, options(mostBlock), []byte{2, 1}, 68)
	tooGreat(t, options(mostBlock), []byte{2, 1, 67}, 1)
	gets(t, laid(2, 0, 1, 67, 0), options(mostBlock), api.Block{Mode: 1, Raw: 1, Mid: 67}, 8)
}

func TestP30_2_Sum(t *testing.T) {
	for _, begin := range [][]byte{{1, 3}, {2, 3, 4, 2}, {6, 3, 0, 0}} {
		b := behind(begin, 255, 254, 253, 252)
		for end := range len(b) {
			refuses(t, b[:end], options(3), api.ErrTruncated)
			refuses(t, b[:end:end], options(3), api.ErrTruncated)
		}
		if h, n, e := block.Get(b, options(3)); h.Sum != 0xfcfdfeff || n != len(b) || e != api.OK {
			t.Errorf("Get of %v: %+v, %d, %d", b, h, n, e)
		}
	}
}

// taken is the number with which bytes begin, by the document's words: it, what is behind, and what is wrong with it.
func taken(b []byte, least, most uint64) (int, []byte, api.Errno) {
	var n uint64
	for k, c := range b {
		if k == 9 && c > 1 || k > 0 && c == 0 {
			return 0, nil, api.ErrLength
		}
		n |= uint64(c&127) << (7 * k)
		if c >= 128 {
			continue
		}
		if n < least || n > most {
			return 0, nil, api.ErrLength
		}
		return int(n), b[k+1:], api.OK
	}
	return 0, nil, api.ErrTruncated
}

// told is what the document's words say of bytes.
func told(b []byte, o api.Options) (api.Block, int, api.Errno) {
	if len(b) == 0 {
		return api.Block{}, 0, api.ErrTruncated
	}
	if b[0] < 1 || b[0] > 6 {
		return api.Block{}, 0, api.ErrTag
	}
	raw, left, e := taken(b[1:], 1, uint64(o.Block))
	if e != api.OK {
		return api.Block{}, 0, e
	}
	h := api.Block{Mode: int(b[0]) - 1, Raw: raw, Coded: raw}
	if h.Mode != 0 {
		if h.Mid, left, e = taken(left, 0, uint64(3*raw+64)); e != api.OK {
			return api.Block{}, 0, e
		}
		if h.Coded, left, e = taken(left, 0, uint64(raw-1)); e != api.OK {
			return api.Block{}, 0, e
		}
	}
	if len(left) < 4 {
		return api.Block{}, 0, api.ErrTruncated
	}
	h.Sum = binary.LittleEndian.Uint32(left)
	return h, len(b) - len(left) + 4, api.OK
}

// thrown is a block's bytes, or something like it.
func thrown(dice *rand.Rand, tags int) []byte {
	b := []byte{byte(dice.Intn(tags))}
	many := 1
	if b[0] > 1 {
		many = 3
	}
	for range many {
		if dice.Intn(9) == 0 {
			b = append(b, otherForms()[dice.Intn(10)]...)
		}
		b = binary.AppendUvarint(b, dice.Uint64()>>(16+dice.Intn(48)))
	}
	for range dice.Intn(9) {
		b = append(b, byte(dice.Intn(256)))
	}
	return b[:len(b)-dice.Intn(min(len(b), 4)+1)]
}

func TestP30_2_Thrown(t *testing.T) {
	dice := rand.New(rand.NewSource(30))
	seen := map[api.Errno]int{}
	for range 60000 {
		b := thrown(dice, 8)
		o := options(1 + dice.Intn(1<<(1+dice.Intn(24))))
		kept := bytes.Clone(b)
		h, size, e := told(b, o)
		seen[e]++
		if e == api.OK {
			gets(t, b, o, h, size)
		} else {
			refuses(t, b, o, e)
		}
		if !bytes.Equal(b, kept) {
			t.Fatalf("Get changed %v to %v", kept, b)
		}
	}
	for _, e := range []api.Errno{api.OK, api.ErrTruncated, api.ErrTag, api.ErrLength} {
		if seen[e] < 500 {
			t.Errorf("only %d of the error %d", seen[e], e)
		}
	}
}

func TestP30_2_OptionsThatMayNotBeEnd(t *testing.T) {
	for _, n := range []int{math.MinInt, -1, 0, mostBlock + 1, math.MaxInt} {
		for _, raw := range []uint64{0, 1, mostBlock + 1, 1 << 62, 1<<63 - 1, math.MaxUint64} {
			b := binary.AppendUvarint([]byte{2}, raw)
			b = binary.AppendUvarint(b, raw)
			b = binary.AppendUvarint(b, raw)
			block.Get(behind(b, 1, 2, 3, 4), options(n))
			block.Check(api.Block{Mode: 1, Raw: int(raw), Mid: int(raw), Coded: int(raw)}, options(n))
		}
	}
}

func TestP30_3_Example(t *testing.T) {
	if b := block.PutEnd(0, 0); !bytes.Equal(b, make([]byte, 6)) {
		t.Error(b)
	}
	getsEnd(t, make([]byte, 6), 0, 0, 6)
}

func TestP30_3_PutEnd(t *testing.T) {
	for _, total := range []int{0, 1, 127, 128, 300, 1 << 32, 1<<35 - 1, 1 << 35, mostTotal - 1, mostTotal} {
		for _, sum := range []uint32{0, 1, 255, 256, 0x01020304, math.MaxUint32} {
			b := block.PutEnd(total, sum)
			if !bytes.Equal(b, laid(0, sum, total)) {
				t.Errorf("PutEnd of %d, %d: %v", total, sum, b)
			}
			clear(b[:cap(b)])
			if b := block.PutEnd(total, sum); !bytes.Equal(b, laid(0, sum, total)) {
				t.Errorf("PutEnd of %d, %d behind another one: %v", total, sum, b)
			}
		}
	}
	if b := block.PutEnd(300, 0x01020304); !bytes.Equal(b, []byte{0, 172, 2, 4, 3, 2, 1}) {
		t.Error(b)
	}
	for _, total := range []int{-1, -300, math.MinInt} {
		if b := block.PutEnd(total, 7); !bytes.Equal(b, []byte{0, 0, 7, 0, 0, 0}) {
			t.Errorf("PutEnd of %d: %v", total, b)
		}
	}
	if b := block.PutEnd(math.MaxInt, 7); !bytes.Equal(b, laid(0, 7, math.MaxInt)) {
		t.Error(b)
	}
}

func TestP30_3_Tags(t *testing.T) {
	refusesEnd(t, nil, api.ErrTruncated)
	refusesEnd(t, []byte{}, api.ErrTruncated)
	for c := 1; c < 256; c++ {
		refusesEnd(t, []byte{byte(c)}, api.ErrTag)
		refusesEnd(t, laid(byte(c), 0, 0), api.ErrTag)
		refusesEnd(t, laid(byte(c), 0, mostTotal+1), api.ErrTag)
	}
}

func TestP30_3_Lengths(t *testing.T) {
	for _, form := range otherForms() {
		b := behind([]byte{0}, form...)
		for end := range len(b) {
			refusesEnd(t, b[:end], api.ErrTruncated)
		}
		refusesEnd(t, b, api.ErrLength)
		refusesEnd(t, behind(b, 0, 0, 0, 0, 0), api.ErrLength)
	}
	for _, n := range []uint64{mostTotal + 1, 1 << 41, 1<<63 - 1, 1 << 63, 1<<63 + 1, math.MaxUint64} {
		b := binary.AppendUvarint([]byte{0}, n)
		for end := range len(b) {
			refusesEnd(t, b[:end], api.ErrTruncated)
		}
		refusesEnd(t, b, api.ErrLength)
		refusesEnd(t, behind(b, 0, 0, 0, 0, 0), api.ErrLength)
	}
	getsEnd(t, laid(0, 9, mostTotal), mostTotal, 9, 11)
}

// toldEnd is what the document's words say of bytes.
func toldEnd(b []byte) (int, uint32, int, api.Errno) {
	if len(b) == 0 {
		return 0, 0, 0, api.ErrTruncated
	}
	if b[0] != 0 {
		return 0, 0, 0, api.ErrTag
	}
	n, left, e := taken(b[1:], 0, mostTotal)
	if e != api.OK {
		return 0, 0, 0, e
	}
	if len(left) < 4 {
		return 0, 0, 0, api.ErrTruncated
	}
	return n, binary.LittleEndian.Uint32(left), len(b) - len(left) + 4, api.OK
}

func TestP30_3_Thrown(t *testing.T) {
	dice := rand.New(rand.NewSource(303))
	seen := map[api.Errno]int{}
	for range 60000 {
		b := thrown(dice, 2)
		kept := bytes.Clone(b)
		total, sum, size, e := toldEnd(b)
		seen[e]++
		if e == api.OK {
			getsEnd(t, b, total, sum, size)
		} else {
			refusesEnd(t, b, e)
		}
		if !bytes.Equal(b, kept) {
			t.Fatalf("GetEnd changed %v to %v", kept, b)
		}
	}
	for _, e := range []api.Errno{api.OK, api.ErrTruncated, api.ErrTag, api.ErrLength} {
		if seen[e] < 500 {
			t.Errorf("only %d of the error %d", seen[e], e)
		}
	}
}

func TestP30_4_RoundTrips(t *testing.T) {
	eachThatMay(func(h api.Block, o api.Options) {
		b := block.Put(h)
		gets(t, b, o, h, len(b))
		gets(t, behind(b, 0), o, h, len(b))
		gets(t, behind(b, b...), o, h, len(b))
		gets(t, behind(b, bytes.Repeat([]byte{255}, 30)...), o, h, len(b))
		for end := range len(b) {
			// With and without the rest in the room behind.
			refuses(t, b[:end], o, api.ErrTruncated)
			refuses(t, b[:end:end], o, api.ErrTruncated)
		}
	})
}

func TestP30_4_EndsRoundTrip(t *testing.T) {
	for _, total := range []int{0, 1, 127, 128, 16383, 16384, 1 << 32, 1 << 35, mostTotal - 1, mostTotal} {
		for _, sum := range []uint32{0, 1, 1 << 31, math.MaxUint32} {
			b := block.PutEnd(total, sum)
			getsEnd(t, b, total, sum, len(b))
			getsEnd(t, behind(b, 0), total, sum, len(b))
			getsEnd(t, behind(b, bytes.Repeat([]byte{255}, 30)...), total, sum, len(b))
			for end := range len(b) {
				refusesEnd(t, b[:end], api.ErrTruncated)
				refusesEnd(t, b[:end:end], api.ErrTruncated)
			}
		}
	}
}

func TestP30_5_Size(t *testing.T) {
	longest := 0
	eachThatMay(func(h api.Block, o api.Options) {
		longest = max(longest, len(block.Put(h)))
	})
	if longest != 17 {
		t.Errorf("the longest block has %d bytes ahead", longest)
	}
	if n := len(block.PutEnd(mostTotal, math.MaxUint32)); n != 11 {
		t.Errorf("the longest end has %d bytes", n)
	}
}
