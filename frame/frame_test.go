package frame_test

import (
	"bytes"
	"encoding/binary"
	"hash/crc32"
	"math"
	"math/rand"
	"reflect"
	"runtime"
	"testing"

	"winepress/api"
	"winepress/block"
	"winepress/choose"
	"winepress/frame"
)

const (
	mostBlock = 1 << 24
	mostTotal = 1 << 40
)

// options is options with so many bytes of a block.
func options(n int) api.Options {
	return api.Options{Block: n, Width: 1, Recipe: 0, Mode: api.Auto}
}

// headOf is a head's bytes by the document's words.
func headOf(o api.Options) []byte {
	b := append([]byte("WPR1"), byte(o.Width), byte(o.Recipe), byte(o.Mode))
	b = binary.AppendUvarint(b, uint64(o.Block))
	return binary.LittleEndian.AppendUint32(b, crc32.ChecksumIEEE(b))
}

// aheadOf is what stands ahead of a block by the document's words.
func aheadOf(h api.Block) []byte {
	b := binary.AppendUvarint([]byte{byte(h.Mode + 1)}, uint64(h.Raw))
	if h.Mode != 0 {
		b = binary.AppendUvarint(b, uint64(h.Mid))
		b = binary.AppendUvarint(b, uint64(h.Coded))
	}
	return binary.LittleEndian.AppendUint32(b, h.Sum)
}

// endOf is an end's bytes by the document's words.
func endOf(total int, sum uint32) []byte {
	return binary.LittleEndian.AppendUint32(binary.AppendUvarint([]byte{0}, uint64(total)), sum)
}

// bytesOf is a stream's bytes by the document's words.
func bytesOf(st api.Stream, payloads [][]byte) []byte {
	s, total := headOf(st.Options), 0
	for k, h := range st.Blocks {
		s = append(append(s, aheadOf(h)...), payloads[k]...)
		total += h.Raw
	}
	return append(s, endOf(total, st.Sum)...)
}

// placed is a stream with From, At and Total as the document has them.
func placed(st api.Stream) api.Stream {
	from, at := len(headOf(st.Options)), 0
	st.Blocks = append([]api.Block(nil), st.Blocks...)
	for k := range st.Blocks {
		h := &st.Blocks[k]
		h.From, h.At = from+len(aheadOf(*h)), at
		from, at = h.From+h.Coded, at+h.Raw
	}
	st.Total = at
	return st
}

// alike tells whether two streams are.
func alike(a, b api.Stream) bool {
	if len(a.Blocks) != len(b.Blocks) {
		return false
	}
	for k := range a.Blocks {
		if a.Blocks[k] != b.Blocks[k] {
			return false
		}
	}
	return a.Options == b.Options && a.Total == b.Total && a.Sum == b.Sum
}

// parses asks for just this stream.
func parses(t *testing.T, s []byte, want api.Stream) {
	t.Helper()
	if st, e := frame.Parse(s); e != api.OK || !alike(st, want) {
		t.Errorf("Parse of %d bytes: %+v, %d, not %+v", len(s), st, e, want)
	}
}

// refuses asks for an error, and nothing beside it.
func refuses(t *testing.T, s []byte, want api.Errno) {
	t.Helper()
	if st, e := frame.Parse(s); e != want || !reflect.DeepEqual(st, api.Stream{}) {
		t.Errorf("Parse of %v: %+v, %d, not %d", s[:min(len(s), 60)], st, e, want)
	}
}

// puts asks for just these bytes.
func puts(t *testing.T, st api.Stream, payloads [][]byte, want []byte) {
	t.Helper()
	if s, e := frame.Put(st, payloads); e != api.OK || !bytes.Equal(s, want) {
		t.Errorf("Put of %+v: %v, %d, not %v", st, s, e, want)
	}
}

// putsNone asks for an error of Put, and nothing beside it.
func putsNone(t *testing.T, st api.Stream, payloads [][]byte, want api.Errno) {
	t.Helper()
	if s, e := frame.Put(st, payloads); e != want || s != nil {
		t.Errorf("Put of %+v and %d payloads: %v, %d, not %d", st, len(payloads), s, e, want)
	}
}

// joined is pieces one behind the other, in new memory.
func joined(pieces ...[]byte) []byte {
	return bytes.Join(pieces, nil)
}

// anyBytes is bytes of which nothing can be told.
func anyBytes(dice *rand.Rand, n int) []byte {
	b := make([]byte, n)
	dice.Read(b)
	return b
}

// anyStream is a stream with blocks of all modes, and payloads that say nothing.
func anyStream(dice *rand.Rand) (api.Stream, [][]byte) {
	o := api.Options{
		Block:  1 + dice.Intn(1<<(1+dice.Intn(24))),
		Width:  1 << dice.Intn(4),
		Recipe: dice.Intn(11),
		Mode:   dice.Intn(7),
	}
	st := api.Stream{Options: o, Sum: dice.Uint32()}
	var payloads [][]byte
	for range dice.Intn(5) {
		h := api.Block{Mode: dice.Intn(6), Raw: 1 + dice.Intn(min(o.Block, 300)), Sum: dice.Uint32()}
		h.Coded = h.Raw
		if h.Mode != 0 {
			h.Mid, h.Coded = dice.Intn(3*h.Raw+65), dice.Intn(h.Raw)
		}
		st.Blocks = append(st.Blocks, h)
		payloads = append(payloads, anyBytes(dice, h.Coded))
	}
	return st, payloads
}

// sample is a stream with two blocks.
func sample() (api.Stream, [][]byte) {
	return api.Stream{
		Options: options(9),
		Blocks:  []api.Block{{Mode: 0, Raw: 3, Coded: 3, Sum: 1}, {Mode: 2, Raw: 9, Mid: 91, Coded: 2, Sum: 0xfffefdfc}},
		Sum:     0x01020304,
	}, [][]byte{{5, 6, 7}, {8, 9}}
}

func TestP32_1_NoBlocks(t *testing.T) {
	for _, n := range []int{1, 127, 128, 65536, mostBlock} {
		s := joined(headOf(options(n)), []byte{0, 0, 4, 3, 2, 1})
		parses(t, s, api.Stream{Options: options(n), Sum: 0x01020304})
	}
}

func TestP32_1_Vectors(t *testing.T) {
	s := joined(headOf(options(9)),
		[]byte{1, 3, 1, 0, 0, 0}, []byte{5, 6, 7},
		[]byte{3, 9, 91, 2, 252, 253, 254, 255}, []byte{8, 9},
		[]byte{0, 12, 4, 3, 2, 1})
	parses(t, s, api.Stream{
		Options: options(9),
		Blocks: []api.Block{
			{Mode: 0, Raw: 3, Coded: 3, Sum: 1, From: 18, At: 0},
			{Mode: 2, Raw: 9, Mid: 91, Coded: 2, Sum: 0xfffefdfc, From: 29, At: 3},
		},
		Total: 12,
		Sum:   0x01020304,
	})
}

func TestP32_1_PayloadsAreNotLookedAt(t *testing.T) {
	st, payloads := sample()
	for c := range 256 {
		for _, p := range payloads {
			for k := range p {
				p[k] = byte(c)
			}
		}
		parses(t, bytesOf(st, payloads), placed(st))
	}
}

func TestP32_1_HeadsErrors(t *testing.T) {
	refuses(t, nil, api.ErrTruncated)
	refuses(t, []byte("W"), api.ErrTruncated)
	refuses(t, []byte("WPR2"), api.ErrMagic)
	refuses(t, []byte("x"), api.ErrMagic)
	h := headOf(options(9))
	for k := range h {
		bad := joined(h, []byte{0, 0, 0, 0, 0, 0})
		bad[k] ^= 1
		want := api.ErrHeader
		if k < 4 {
			want = api.ErrMagic
		}
		refuses(t, bad, want)
		// What stands behind a head that is wrong plays no part.
		refuses(t, bad[:len(h)], want)
		refuses(t, append(bad[:len(h):len(h)], 9, 9), want)
	}
	for _, o := range []api.Options{{Width: 1}, {Block: mostBlock + 1, Width: 1}, {Block: 1, Width: 3}, {Block: 1, Width: 1, Recipe: 11}, {Block: 1, Width: 1, Mode: 7}} {
		refuses(t, joined(headOf(o), endOf(0, 0)), api.ErrHeader)
	}
	refuses(t, joined([]byte{'W', 'P', 'R', '1', 1, 0, 0, 129, 0}, endOf(0, 0)), api.ErrHeader)
}

func TestP32_1_TheEnd(t *testing.T) {
	h := headOf(options(9))
	one := joined(h, []byte{1, 3, 1, 0, 0, 0, 5, 6, 7})
	for _, c := range []struct {
		s    []byte
		want api.Errno
	}{
		{joined(h), api.ErrTruncated},
		{joined(h, []byte{0}), api.ErrTruncated},
		{joined(h, []byte{0, 128}), api.ErrTruncated},
		{joined(h, []byte{0, 128, 0}), api.ErrLength},
		{joined(h, []byte{0, 128, 0, 1, 1, 1, 1}), api.ErrLength},
		{joined(h, []byte{0, 0, 1, 1, 1}), api.ErrTruncated},
		{joined(h, endOf(mostTotal+1, 0)), api.ErrLength},
		{joined(h, endOf(mostTotal+1, 0)[:7]), api.ErrLength},
		// Of another number the end is looked at as a whole first.
		{joined(h, endOf(1, 0)[:5]), api.ErrTruncated},
		{joined(h, endOf(1, 0)), api.ErrLength},
		{joined(h, endOf(mostTotal, 0)), api.ErrLength},
		{joined(h, endOf(1, 0), []byte{0}), api.ErrLength},
		{joined(h, endOf(0, 0), []byte{0}), api.ErrTrailing},
		{joined(h, endOf(0, 0), h, endOf(0, 0)), api.ErrTrailing},
		{joined(h, endOf(0, 0), []byte{7, 1, 2}), api.ErrTrailing},
		{joined(one), api.ErrTruncated},
		{joined(one, endOf(2, 0)), api.ErrLength},
		{joined(one, endOf(4, 0)), api.ErrLength},
		{joined(one, endOf(0, 0)), api.ErrLength},
		{joined(one, endOf(3, 9), []byte{255}), api.ErrTrailing},
		{joined(one, endOf(2, 9), []byte{255}), api.ErrLength},
	} {
		refuses(t, c.s, c.want)
		refuses(t, c.s[:len(c.s):len(c.s)], c.want)
	}
	parses(t, joined(one, endOf(3, 9)), placed(api.Stream{Options: options(9), Blocks: []api.Block{{Raw: 3, Coded: 3, Sum: 1}}, Sum: 9}))
}

func TestP32_1_BlocksErrors(t *testing.T) {
	h := headOf(options(9))
	ahead := [][]byte{h, joined(h, []byte{1, 3, 1, 0, 0, 0, 5, 6, 7}), joined(h, []byte{4, 9, 0, 0, 1, 0, 0, 0})}
	for _, a := range ahead {
		for tag := 7; tag < 256; tag++ {
			refuses(t, joined(a, []byte{byte(tag)}), api.ErrTag)
			refuses(t, joined(a, []byte{byte(tag), 3, 1, 0, 0, 0, 5, 6, 7}), api.ErrTag)
		}
		for _, c := range []struct {
			b    []byte
			want api.Errno
		}{
			{[]byte{1}, api.ErrTruncated},
			{[]byte{1, 0}, api.ErrLength},
			{[]byte{1, 10}, api.ErrLength},
			{[]byte{1, 129, 0}, api.ErrLength},
			{[]byte{1, 9, 0, 0, 0}, api.ErrTruncated},
			{[]byte{2, 9, 92}, api.ErrLength},
			{[]byte{2, 9, 91, 9}, api.ErrLength},
			{[]byte{2, 9, 91, 8}, api.ErrTruncated},
			// Of its payload some bytes are not there.
			{[]byte{1, 3, 0, 0, 0, 0}, api.ErrTruncated},
			{[]byte{1, 3, 0, 0, 0, 0, 1, 2}, api.ErrTruncated},
			{[]byte{6, 9, 91, 8, 0, 0, 0, 0, 1, 2, 3, 4, 5, 6, 7}, api.ErrTruncated},
			// They are, and then there is no byte.
			{[]byte{1, 3, 0, 0, 0, 0, 1, 2, 3}, api.ErrTruncated},
			{[]byte{6, 9, 91, 0, 0, 0, 0, 0}, api.ErrTruncated},
			// They are, and then there is neither a block nor the end.
			{[]byte{1, 3, 0, 0, 0, 0, 1, 2, 3, 7}, api.ErrTag},
		} {
			refuses(t, joined(a, c.b), c.want)
		}
	}
}

func TestP32_1_ThePayloadIsWithinTheBytes(t *testing.T) {
	// The room behind the end has what a payload needs, and an end, too.
	st, payloads := sample()
	s := bytesOf(st, payloads)
	for n := range s {
		refuses(t, s[:n], api.ErrTruncated)
	}
}

func TestP32_1_MostInAll(t *testing.T) {
	h := api.Block{Mode: 2, Raw: mostBlock, Mid: 1, Coded: 0}
	s := headOf(options(mostBlock))
	s = append(s, bytes.Repeat(aheadOf(h), mostTotal/mostBlock)...)
	st, e := frame.Parse(joined(s, endOf(mostTotal, 1)))
	if e != api.OK || st.Total != mostTotal || len(st.Blocks) != mostTotal/mostBlock {
		t.Fatal(e, st.Total, len(st.Blocks))
	}
	if last := st.Blocks[len(st.Blocks)-1]; last.At != mostTotal-mostBlock || last.From != len(s) {
		t.Errorf("%+v", last)
	}
	h.Raw = 1
	refuses(t, joined(s, aheadOf(h), endOf(mostTotal+1, 1)), api.ErrLength)
	refuses(t, joined(s, aheadOf(h), endOf(mostTotal, 1)), api.ErrLength)
}

// number is the number with which bytes begin, by the document's words: it, what is behind, and what is wrong with it.
func number(b []byte, least, most uint64) (int, []byte, api.Errno) {
	var n uint64
	for k, c := range b {
		if k == 9 && c > 1 || k > 0 && c == 0 {
			return 0, nil, api.ErrLength
		}
		n |= uint64(c&127) << (7 * k)
		if c >= 128 {
			continue
		}
		if n < least || n > most {
			return 0, nil, api.ErrLength
		}
		return int(n), b[k+1:], api.OK
	}
	return 0, nil, api.ErrTruncated
}

// toldBlock is the block that stands at a place of a stream by the document's words, and what is behind its payload.
func toldBlock(s []byte, place int, o api.Options) (h api.Block, left []byte, e api.Errno) {
	h.Mode = int(s[place]) - 1
	if h.Mode > 5 {
		return h, nil, api.ErrTag
	}
	if h.Raw, left, e = number(s[place+1:], 1, uint64(o.Block)); e != api.OK {
		return h, nil, e
	}
	h.Coded = h.Raw
	if h.Mode != 0 {
		if h.Mid, left, e = number(left, 0, uint64(3*h.Raw+64)); e != api.OK {
			return h, nil, e
		}
		if h.Coded, left, e = number(left, 0, uint64(h.Raw-1)); e != api.OK {
			return h, nil, e
		}
	}
	if len(left) < 4 {
		return h, nil, api.ErrTruncated
	}
	h.Sum = binary.LittleEndian.Uint32(left)
	left = left[4:]
	h.From = len(s) - len(left)
	if len(left) < h.Coded {
		return h, nil, api.ErrTruncated
	}
	return h, left[h.Coded:], api.OK
}

// told is the stream that stands behind a head of so many bytes, by the document's words.
func told(s []byte, size int, o api.Options) (api.Stream, api.Errno) {
	st := api.Stream{Options: o}
	for left := s[size:]; ; {
		if len(left) == 0 {
			return api.Stream{}, api.ErrTruncated
		}
		if left[0] == 0 {
			total, left, e := number(left[1:], 0, mostTotal)
			switch {
			case e != api.OK:
				return api.Stream{}, e
			case len(left) < 4:
				return api.Stream{}, api.ErrTruncated
			case total != st.Total:
				return api.Stream{}, api.ErrLength
			case len(left) > 4:
				return api.Stream{}, api.ErrTrailing
			}
			st.Sum = binary.LittleEndian.Uint32(left)
			return st, api.OK
		}
		h, behind, e := toldBlock(s, len(s)-len(left), o)
		if e != api.OK {
			return api.Stream{}, e
		}
		h.At = st.Total
		st.Total += h.Raw
		st.Blocks = append(st.Blocks, h)
		left = behind
	}
}

// spoilt is bytes of which some, behind a head, are others, are more, or are fewer.
func spoilt(dice *rand.Rand, s []byte, size int) []byte {
	b := bytes.Clone(s)
	for range 1 + dice.Intn(3) {
		at := size + dice.Intn(len(b)-size+1)
		switch dice.Intn(5) {
		case 0:
			b = joined(b[:at], anyBytes(dice, 1+dice.Intn(3)), b[at:])
		case 1:
			b = joined(b[:at], b[min(at+1, len(b)):])
		case 2:
			if at < len(b) {
				b[at] = byte(dice.Intn(10))
			}
		case 3:
			if at < len(b) {
				b[at] ^= byte(1 << dice.Intn(8))
			}
		case 4:
			b = b[:len(b)-dice.Intn(min(len(b)-size, 12)+1)]
		}
	}
	return b
}

func TestP32_1_Thrown(t *testing.T) {
	dice := rand.New(rand.NewSource(32))
	seen := map[api.Errno]int{}
	for range 30000 {
		st, payloads := anyStream(dice)
		for k := range payloads {
			// Short ones: more is spoilt of what stands between them.
			if h := &st.Blocks[k]; dice.Intn(3) > 0 && h.Mode != 0 {
				h.Coded = min(h.Coded, 2)
				payloads[k] = payloads[k][:h.Coded]
			}
		}
		size := len(headOf(st.Options))
		s := spoilt(dice, bytesOf(st, payloads), size)
		kept := bytes.Clone(s)
		want, e := told(s, size, st.Options)
		seen[e]++
		if e == api.OK {
			parses(t, s, want)
		} else {
			refuses(t, s, e)
		}
		if !bytes.Equal(s, kept) {
			t.Fatalf("Parse changed %v to %v", kept, s)
		}
	}
	for _, e := range []api.Errno{api.OK, api.ErrTruncated, api.ErrTag, api.ErrLength, api.ErrTrailing} {
		if seen[e] < 200 {
			t.Errorf("only %d of the error %d", seen[e], e)
		}
	}
}

func TestP32_1_ThrownAtAll(t *testing.T) {
	dice := rand.New(rand.NewSource(321))
	for range 20000 {
		o := options(1 + dice.Intn(200))
		s := joined(headOf(o), anyBytes(dice, dice.Intn(40)))
		for k := len(headOf(o)); k < len(s); k++ {
			if dice.Intn(3) > 0 {
				s[k] %= 8
			}
		}
		want, e := told(s, len(headOf(o)), o)
		if e == api.OK {
			parses(t, s, want)
		} else {
			refuses(t, s, e)
		}
		frame.Parse(anyBytes(dice, dice.Intn(30)))
	}
}

func TestP32_1_MuchClaimed(t *testing.T) {
	s := joined(headOf(options(mostBlock)), aheadOf(api.Block{Raw: mostBlock, Coded: mostBlock}), make([]byte, 99))
	var before, after runtime.MemStats
	runtime.ReadMemStats(&before)
	for range 10 {
		refuses(t, s, api.ErrTruncated)
	}
	runtime.ReadMemStats(&after)
	if took := after.TotalAlloc - before.TotalAlloc; took > 1<<20 {
		t.Errorf("%d bytes were taken", took)
	}
}

func TestP32_1_NewMemory(t *testing.T) {
	st, payloads := sample()
	s := bytesOf(st, payloads)
	got, _ := frame.Parse(s)
	again, _ := frame.Parse(s)
	clear(got.Blocks[:cap(got.Blocks)])
	if !alike(again, placed(st)) {
		t.Errorf("%+v", again)
	}
	clear(s)
	if !alike(again, placed(st)) {
		t.Errorf("%+v", again)
	}
}

func TestP32_2_Example(t *testing.T) {
	for _, n := range []int{1, 300, mostBlock} {
		st := api.Stream{Options: options(n), Sum: 0x01020304}
		want := joined(headOf(options(n)), []byte{0, 0, 4, 3, 2, 1})
		puts(t, st, nil, want)
		puts(t, st, [][]byte{}, want)
	}
}

func TestP32_2_Vectors(t *testing.T) {
	st, payloads := sample()
	puts(t, st, payloads, joined(headOf(options(9)),
		[]byte{1, 3, 1, 0, 0, 0, 5, 6, 7},
		[]byte{3, 9, 91, 2, 252, 253, 254, 255, 8, 9},
		[]byte{0, 12, 4, 3, 2, 1}))
}

func TestP32_2_TotalFromAndAtPlayNoPart(t *testing.T) {
	for _, n := range []int{math.MinInt, -1, 0, 1, 12, 1 << 40, 1<<40 + 1, math.MaxInt} {
		st, payloads := sample()
		want := bytesOf(st, payloads)
		st.Total = n
		for k := range st.Blocks {
			st.Blocks[k].From, st.Blocks[k].At = n, -n
		}
		puts(t, st, payloads, want)
	}
}

func TestP32_2_WrongOptions(t *testing.T) {
	for _, o := range []api.Options{
		{}, {Width: 1}, {Block: -1, Width: 1}, {Block: mostBlock + 1, Width: 1}, {Block: 9}, {Block: 9, Width: 3},
		{Block: 9, Width: 16}, {Block: 9, Width: 1, Recipe: -1}, {Block: 9, Width: 1, Recipe: 11},
		{Block: 9, Width: 1, Mode: -1}, {Block: 9, Width: 1, Mode: 7}, {Block: math.MaxInt, Width: math.MinInt},
	} {
		st, payloads := sample()
		st.Options = o
		putsNone(t, st, payloads, api.ErrOptions)
		// It is the first one that is told.
		putsNone(t, st, payloads[:1], api.ErrOptions)
		st.Blocks[0].Mode = 9
		putsNone(t, st, payloads, api.ErrOptions)
		putsNone(t, api.Stream{Options: o}, nil, api.ErrOptions)
	}
}

func TestP32_2_WrongLengths(t *testing.T) {
	st, payloads := sample()
	putsNone(t, st, nil, api.ErrLength)
	putsNone(t, st, payloads[:1], api.ErrLength)
	putsNone(t, st, append(payloads[:2:2], nil), api.ErrLength)
	putsNone(t, api.Stream{Options: options(9)}, [][]byte{nil}, api.ErrLength)
	for k := range payloads {
		for _, other := range [][]byte{nil, payloads[k][:1], append(bytes.Clone(payloads[k]), 1)} {
			l := append([][]byte(nil), payloads...)
			l[k] = other
			putsNone(t, st, l, api.ErrLength)
		}
	}
}

func TestP32_2_BlocksThatMayNotBe(t *testing.T) {
	for _, h := range []api.Block{
		{}, {Mode: -1, Raw: 3, Coded: 3}, {Mode: 6, Raw: 3, Coded: 2}, {Mode: 7, Raw: 3, Coded: 2},
		{Raw: 10, Coded: 10}, {Raw: 3, Coded: 2}, {Raw: 3, Coded: 4}, {Raw: 3, Mid: 1, Coded: 3}, {Raw: -1, Coded: -1},
		{Mode: 1, Raw: 3, Mid: 74, Coded: 2}, {Mode: 1, Raw: 3, Mid: -1, Coded: 2}, {Mode: 1, Raw: 3, Mid: 3, Coded: 3},
		{Mode: 1, Raw: 3, Mid: 3, Coded: -1}, {Mode: 1, Raw: math.MaxInt, Mid: 3, Coded: 2}, {Mode: 1, Raw: 1<<32 + 1, Mid: 3},
	} {
		for k := range 3 {
			st, payloads := sample()
			blocks := append([]api.Block(nil), st.Blocks[:k]...)
			st.Blocks = append(append(blocks, h), st.Blocks[k:]...)
			l := append([][]byte(nil), payloads[:k]...)
			l = append(append(l, make([]byte, min(max(h.Coded, 0), 99))), payloads[k:]...)
			putsNone(t, st, l, api.ErrLength)
		}
	}
	// One that may be with others.
	st := api.Stream{Options: options(10), Blocks: []api.Block{{Raw: 10, Coded: 10}}}
	if s, e := frame.Put(st, [][]byte{make([]byte, 10)}); e != api.OK {
		t.Error(s, e)
	}
}

func TestP32_2_Thrown(t *testing.T) {
	dice := rand.New(rand.NewSource(322))
	for range 5000 {
		st, payloads := anyStream(dice)
		puts(t, st, payloads, bytesOf(st, payloads))
	}
}

func TestP32_2_NewMemory(t *testing.T) {
	st, payloads := sample()
	wide := bytes.Repeat([]byte{7}, 40)
	payloads[0] = wide[:3]
	blocks := make([]api.Block, 2, 9)
	copy(blocks, st.Blocks)
	st.Blocks = blocks
	want := bytesOf(st, payloads)
	puts(t, st, payloads, want)
	s, _ := frame.Put(st, payloads)
	clear(s[:cap(s)])
	again, _ := sample()
	if !bytes.Equal(wide, bytes.Repeat([]byte{7}, 40)) || !alike(st, again) || blocks[:3][2] != (api.Block{}) {
		t.Error("what was handed in is changed")
	}
	puts(t, st, payloads, want)
}

func TestP32_3_Payload(t *testing.T) {
	dice := rand.New(rand.NewSource(323))
	for range 2000 {
		st, payloads := anyStream(dice)
		s := bytesOf(st, payloads)
		st = placed(st)
		for k, p := range payloads {
			if got := frame.Payload(s, st, k); !bytes.Equal(got, p) {
				t.Fatalf("Payload %d: %v, not %v", k, got, p)
			}
		}
	}
}

func TestP32_3_Nothing(t *testing.T) {
	st, payloads := sample()
	s := bytesOf(st, payloads)
	st = placed(st)
	for _, k := range []int{math.MinInt, -1, 2, 3, math.MaxInt} {
		if p := frame.Payload(s, st, k); len(p) > 0 {
			t.Errorf("Payload %d: %v", k, p)
		}
	}
	if p := frame.Payload(s, api.Stream{}, 0); len(p) > 0 {
		t.Error(p)
	}
	edges := []int{math.MinInt, math.MinInt + 1, -9, -1, 0, 1, 2, len(s) - 2, len(s) - 1, len(s), len(s) + 1, math.MaxInt - 1, math.MaxInt}
	for _, from := range edges {
		for _, coded := range edges {
			var want []byte
			if from >= 0 && from <= len(s) && coded > 0 && coded <= len(s)-from {
				want = s[from : from+coded]
			}
			wide := append(bytes.Clone(s), s...)[:len(s)]
			p := frame.Payload(wide, api.Stream{Blocks: []api.Block{{From: from, Coded: coded}}}, 0)
			if !bytes.Equal(p, want) {
				t.Errorf("Payload from %d, %d bytes: %v", from, coded, p)
			}
		}
	}
	for n := range s {
		if p := frame.Payload(s[:n], st, 1); len(p) > 0 && n < st.Blocks[1].From+2 {
			t.Errorf("Payload of %d bytes: %v", n, p)
		}
	}
	if p := frame.Payload(nil, st, 0); len(p) > 0 {
		t.Error(p)
	}
}

func TestP32_3_OnlyFromAndCodedAreAsked(t *testing.T) {
	s := []byte{1, 2, 3, 4, 5}
	st := api.Stream{Total: -5, Blocks: []api.Block{{Mode: 77, Raw: -4, Mid: -9, Coded: 3, From: 1, At: -1}}}
	if p := frame.Payload(s, st, 0); !bytes.Equal(p, []byte{2, 3, 4}) {
		t.Error(p)
	}
}

func TestP32_3_NewMemory(t *testing.T) {
	s := []byte{1, 2, 3, 4, 5}
	st := api.Stream{Blocks: []api.Block{{Coded: 3, From: 1}}}
	p := frame.Payload(s, st, 0)
	clear(p[:cap(p)])
	if !bytes.Equal(s, []byte{1, 2, 3, 4, 5}) {
		t.Error(s)
	}
	p = frame.Payload(s, st, 0)
	clear(s)
	if !bytes.Equal(p, []byte{2, 3, 4}) {
		t.Error(p)
	}
}

func TestP32_4_RoundTrips(t *testing.T) {
	dice := rand.New(rand.NewSource(324))
	for range 3000 {
		st, payloads := anyStream(dice)
		s, e := frame.Put(st, payloads)
		if e != api.OK {
			t.Fatal(e)
		}
		got, e := frame.Parse(s)
		if e != api.OK || !alike(got, placed(st)) {
			t.Fatalf("%+v was parsed as %+v, %d", st, got, e)
		}
		var back [][]byte
		for k := range got.Blocks {
			back = append(back, frame.Payload(s, got, k))
		}
		puts(t, got, back, s)
	}
}

func TestP32_4_OfBlocksThatAreMade(t *testing.T) {
	raw := bytes.Repeat([]byte("a word, and another one; "), 30)
	for mode := range 7 {
		o := api.Options{Block: 200, Width: 2, Recipe: 3, Mode: mode}
		s := headOf(o)
		for at := 0; at < len(raw); at += o.Block {
			b, e := choose.Make(o, raw[at:min(at+o.Block, len(raw))])
			if e != api.OK {
				t.Fatal(e)
			}
			s = append(s, b...)
		}
		s = append(s, endOf(len(raw), 7)...)
		st, e := frame.Parse(s)
		if e != api.OK || st.Total != len(raw) || st.Sum != 7 || st.Options != o {
			t.Fatalf("%+v, %d", st, e)
		}
		for k, h := range st.Blocks {
			if e := block.Check(h, o); e != api.OK {
				t.Error(e)
			}
			b, e := choose.Open(o, h, frame.Payload(s, st, k))
			if e != api.OK || !bytes.Equal(b, raw[h.At:h.At+h.Raw]) {
				t.Errorf("block %d: %d", k, e)
			}
		}
	}
}

func TestP32_5_Beginnings(t *testing.T) {
	dice := rand.New(rand.NewSource(325))
	for range 60 {
		st, payloads := anyStream(dice)
		s, e := frame.Put(st, payloads)
		if e != api.OK {
			t.Fatal(e)
		}
		for n := range s {
			refuses(t, s[:n:n], api.ErrTruncated)
		}
	}
}

func TestP32_5_Behind(t *testing.T) {
	dice := rand.New(rand.NewSource(326))
	for range 200 {
		st, payloads := anyStream(dice)
		s, e := frame.Put(st, payloads)
		if e != api.OK {
			t.Fatal(e)
		}
		for c := range 9 {
			refuses(t, joined(s, []byte{byte(c)}), api.ErrTrailing)
		}
		refuses(t, joined(s, anyBytes(dice, 1+dice.Intn(9))), api.ErrTrailing)
		refuses(t, joined(s, s), api.ErrTrailing)
	}
}
