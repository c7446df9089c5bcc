package choose_test

import (
	"bytes"
	"encoding/binary"
	"hash/crc32"
	"math"
	"math/rand"
	"testing"

	"winepress/api"
	"winepress/block"
	"winepress/choose"
	"winepress/modes"
	"winepress/recipe"
)

const mostBlock = 1 << 24

// eachWay calls with options of each width, each recipe and each mode.
func eachWay(most int, call func(o api.Options)) {
	for _, width := range []int{1, 2, 4, 8} {
		for way := range 11 {
			for mode := range 7 {
				call(api.Options{Block: most, Width: width, Recipe: way, Mode: mode})
			}
		}
	}
}

// rises is words of a width that rise by the same each time.
func rises(many, width, by int) []byte {
	var b []byte
	for i := range many {
		v := binary.LittleEndian.AppendUint64(nil, uint64(i*by))
		b = append(b, v[:width]...)
	}
	return b
}

// anyBytes is bytes of which nothing can be told.
func anyBytes(dice *rand.Rand, n int) []byte {
	b := make([]byte, n)
	dice.Read(b)
	return b
}

// samples is bytes of several kinds, and lengths.
func samples() [][]byte {
	dice := rand.New(rand.NewSource(31))
	l := [][]byte{{0}, {255}, []byte("ab"), make([]byte, 20), make([]byte, 700), []byte("the same, and the same, and the same, and the same")}
	for _, n := range []int{1, 2, 7, 8, 9, 17, 127, 128, 300} {
		l = append(l, anyBytes(dice, n))
	}
	for _, width := range []int{1, 2, 4, 8} {
		b := rises(150, width, 3)
		l = append(l, b, append(bytes.Clone(b), 1), rises(40, width, 1<<20+7))
	}
	return l
}

// laid is a block's bytes by the document's words: what stands ahead, and the payload behind.
func laid(mode, raw, mid int, sum uint32, payload []byte) []byte {
	b := binary.AppendUvarint([]byte{byte(mode + 1)}, uint64(raw))
	if mode != 0 {
		b = binary.AppendUvarint(b, uint64(mid))
		b = binary.AppendUvarint(b, uint64(len(payload)))
	}
	return append(binary.LittleEndian.AppendUint32(b, sum), payload...)
}

// toldMake is the block of bytes by the document's words.
func toldMake(o api.Options, raw []byte) []byte {
	sum := crc32.ChecksumIEEE(raw)
	stored := laid(0, len(raw), 0, sum, raw)
	if o.Mode == 0 {
		return stored
	}
	mid, _ := recipe.Go(raw, o.Width, o.Recipe)
	mode := o.Mode
	var payload []byte
	if mode == 6 {
		mode, payload, _ = modes.Best(mid, o.Width)
	} else {
		payload, _ = modes.Code(mode, mid, o.Width)
	}
	if b := laid(mode, len(raw), len(mid), sum, payload); len(b) < len(stored) {
		return b
	}
	return stored
}

// toldOpen is the bytes of a block by the document's words, of options that may be.
func toldOpen(o api.Options, h api.Block, payload []byte) ([]byte, api.Errno) {
	if block.Check(h, o) != api.OK {
		return nil, api.ErrLength
	}
	if len(payload) != h.Coded {
		return nil, api.ErrPayload
	}
	raw := payload
	if h.Mode != 0 {
		mid, e := modes.Decode(h.Mode, payload, o.Width, h.Mid)
		if e != api.OK {
			return nil, api.ErrPayload
		}
		if raw, e = recipe.Back(mid, o.Width, o.Recipe, h.Raw); e != api.OK {
			return nil, api.ErrPayload
		}
	}
	if crc32.ChecksumIEEE(raw) != h.Sum {
		return nil, api.ErrChecksum
	}
	return raw, api.OK
}

// makes asks for just these bytes.
func makes(t *testing.T, o api.Options, raw, want []byte) {
	t.Helper()
	if b, e := choose.Make(o, raw); e != api.OK || !bytes.Equal(b, want) {
		t.Errorf("Make of %d bytes by %+v: %v, %d, not %v", len(raw), o, b[:min(len(b), 30)], e, want[:min(len(want), 30)])
	}
}

// opens asks for just these bytes.
func opens(t *testing.T, o api.Options, h api.Block, payload, want []byte) {
	t.Helper()
	if b, e := choose.Open(o, h, payload); e != api.OK || !bytes.Equal(b, want) {
		t.Errorf("Open of %+v by %+v: %v, %d, not %v", h, o, b[:min(len(b), 30)], e, want[:min(len(want), 30)])
	}
}

// refuses asks for an error, and nothing beside it.
func refuses(t *testing.T, o api.Options, h api.Block, payload []byte, e api.Errno) {
	t.Helper()
	if b, f := choose.Open(o, h, payload); len(b) != 0 || f != e {
		t.Errorf("Open of %+v, %d bytes, by %+v: %v, %d, not %d", h, len(payload), o, b[:min(len(b), 30)], f, e)
	}
}

// parts is what stands ahead of a block that was made, and its payload.
func parts(t *testing.T, o api.Options, made []byte) (api.Block, []byte) {
	t.Helper()
	h, size, e := block.Get(made, o)
	if e != api.OK {
		t.Fatalf("what was made by %+v is no block: %d", o, e)
	}
	return h, made[size:]
}

// wrongOptions is options that may not be.
func wrongOptions() []api.Options {
	return []api.Options{
		{}, {Block: 0, Width: 1, Mode: 1}, {Block: -1, Width: 1}, {Block: mostBlock + 1, Width: 1, Mode: 6}, {Block: math.MaxInt, Width: 1},
		{Block: 9, Width: 0}, {Block: 9, Width: 3}, {Block: 9, Width: -1}, {Block: 9, Width: 16}, {Block: 9, Width: 1, Recipe: -1},
		{Block: 9, Width: 1, Recipe: 11}, {Block: 9, Width: 1, Mode: -1}, {Block: 9, Width: 1, Mode: 7}, {Block: 9, Width: 1, Mode: math.MaxInt},
	}
}

func TestP31_1_Example(t *testing.T) {
	makes(t, api.Options{Block: 9, Width: 1}, []byte("a"), []byte{1, 1, 0x43, 0xbe, 0xb7, 0xe8, 'a'})
}

func TestP31_1_Vectors(t *testing.T) {
	for _, mode := range []int{0, 1, 2, 3, 4, 5, 6} {
		makes(t, api.Options{Block: 9, Width: 2, Recipe: 10, Mode: mode}, []byte("abc"), []byte{1, 3, 0xc2, 0x41, 0x24, 0x35, 'a', 'b', 'c'})
	}
	zeros := make([]byte, 99)
	sum := crc32.ChecksumIEEE(zeros)
	rans, _ := modes.Code(api.Rans, zeros, 1)
	for _, mode := range []int{2, 6} {
		makes(t, api.Options{Block: 99, Width: 1, Recipe: 0, Mode: mode}, zeros, laid(2, 99, 99, sum, rans))
	}
	// The runs of 99 noughts are two bytes: Mid isn't Raw there.
	mid, _ := recipe.Go(zeros, 1, 9)
	rice, _ := modes.Code(api.Rice, mid, 1)
	makes(t, api.Options{Block: 99, Width: 1, Recipe: 9, Mode: api.Rice}, zeros, laid(1, 99, len(mid), sum, rice))
}

func TestP31_1_Make(t *testing.T) {
	coded := map[byte]int{}
	for _, raw := range samples() {
		eachWay(len(raw), func(o api.Options) {
			want := toldMake(o, raw)
			coded[want[0]]++
			makes(t, o, raw, want)
			o.Block = mostBlock // of which only how much is allowed hangs on
			makes(t, o, raw, want)
		})
	}
	for tag := byte(1); tag <= 6; tag++ {
		if coded[tag] < 20 {
			t.Errorf("only %d blocks of the mode %d", coded[tag], tag-1)
		}
	}
}

func TestP31_1_StoredIsNoRecipe(t *testing.T) {
	raw := rises(100, 4, 5)
	for way := range 11 {
		o := api.Options{Block: 400, Width: 4, Recipe: way, Mode: api.Stored}
		makes(t, o, raw, laid(0, 400, 0, crc32.ChecksumIEEE(raw), raw))
	}
}

// TestP31_1_AsManyBytes looks for blocks that are as long as the stored ones, or longer or shorter by one.
func TestP31_1_AsManyBytes(t *testing.T) {
	dice := rand.New(rand.NewSource(311))
	seen := map[int]int{}
	for range 20000 {
		raw := anyBytes(dice, 1+dice.Intn(60))
		for i := range raw {
			raw[i] &= 31
		}
		o := api.Options{Block: 200, Width: 1, Recipe: dice.Intn(2), Mode: api.Rice}
		sum := crc32.ChecksumIEEE(raw)
		mid, _ := recipe.Go(raw, 1, o.Recipe)
		payload, _ := modes.Code(api.Rice, mid, 1)
		stored, coded := laid(0, len(raw), 0, sum, raw), laid(1, len(raw), len(mid), sum, payload)
		more := len(coded) - len(stored)
		seen[more]++
		if more < 0 {
			makes(t, o, raw, coded)
		} else {
			makes(t, o, raw, stored)
		}
	}
	for more := -1; more <= 1; more++ {
		if seen[more] < 100 {
			t.Errorf("only %d blocks of which the coded one has %d bytes more", seen[more], more)
		}
	}
}

func TestP31_1_WrongArguments(t *testing.T) {
	for _, o := range wrongOptions() {
		for _, raw := range [][]byte{nil, {}, []byte("a"), make([]byte, 20)} {
			if b, e := choose.Make(o, raw); len(b) != 0 || e != api.ErrOptions {
				t.Errorf("Make of %d bytes by %+v: %v, %d", len(raw), o, b, e)
			}
		}
	}
	for _, most := range []int{1, 2, 127, 128, 300} {
		eachWay(most, func(o api.Options) {
			for _, raw := range [][]byte{nil, {}, make([]byte, 0, 9), make([]byte, most+1), make([]byte, 3*most+1)} {
				if b, e := choose.Make(o, raw); len(b) != 0 || e != api.ErrArg {
					t.Errorf("Make of %d bytes by %+v: %v, %d", len(raw), o, b, e)
				}
			}
			if _, e := choose.Make(o, make([]byte, most)); e != api.OK {
				t.Errorf("Make of %d bytes by %+v: %d", most, o, e)
			}
		})
	}
}

func TestP31_1_NewMemory(t *testing.T) {
	room := append(rises(60, 2, 9), bytes.Repeat([]byte{77}, 50)...)
	raw := room[:120]
	kept := bytes.Clone(room)
	eachWay(200, func(o api.Options) {
		b, _ := choose.Make(o, raw)
		clear(b[:cap(b)])
		if !bytes.Equal(room, kept) {
			t.Fatalf("Make by %+v changed what it was handed", o)
		}
		makes(t, o, raw[:len(raw):len(raw)], toldMake(o, raw))
	})
}

func TestP31_2_OpensStored(t *testing.T) {
	raw := []byte("abc")
	h := api.Block{Mode: 0, Raw: 3, Coded: 3, Sum: 0x352441c2}
	eachWay(3, func(o api.Options) {
		opens(t, o, h, raw, raw) // whatever the recipe is
		refuses(t, o, h, []byte("abd"), api.ErrChecksum)
		refuses(t, o, h, []byte("abcd"), api.ErrPayload)
		refuses(t, o, h, []byte("ab"), api.ErrPayload)
		refuses(t, o, h, nil, api.ErrPayload)
	})
}

func TestP31_2_WrongOptions(t *testing.T) {
	for _, o := range wrongOptions() {
		refuses(t, o, api.Block{Mode: 0, Raw: 1, Coded: 1, Sum: 0xe8b7be43}, []byte("a"), api.ErrOptions)
		refuses(t, o, api.Block{}, nil, api.ErrOptions)
		refuses(t, o, api.Block{Mode: math.MaxInt, Raw: math.MaxInt, Mid: math.MaxInt, Coded: math.MaxInt}, nil, api.ErrOptions)
	}
}

func TestP31_2_BlocksThatMayNotBe(t *testing.T) {
	o := api.Options{Block: 9, Width: 1, Recipe: 0, Mode: 6}
	for _, h := range []api.Block{
		{}, {Mode: 0, Raw: 1, Coded: 0}, {Mode: 0, Raw: 1, Coded: 2}, {Mode: 0, Raw: 1, Mid: 1, Coded: 1}, {Mode: -1, Raw: 1, Coded: 1},
		{Mode: 6, Raw: 1, Mid: 1}, {Mode: 0, Raw: 10, Coded: 10}, {Mode: 1, Raw: 0}, {Mode: 1, Raw: -1}, {Mode: 1, Raw: 10, Mid: 10, Coded: 2},
		{Mode: 1, Raw: 9, Mid: 92, Coded: 2}, {Mode: 1, Raw: 9, Mid: -1, Coded: 2}, {Mode: 1, Raw: 9, Mid: 9, Coded: 9},
		{Mode: 1, Raw: 9, Mid: 9, Coded: -1}, {Mode: 5, Raw: math.MaxInt, Mid: math.MaxInt, Coded: math.MaxInt - 1},
	} {
		for n := range 12 {
			// That is told ahead of how long the payload is.
			refuses(t, o, h, make([]byte, n), api.ErrLength)
		}
	}
}

// TestP31_2_Spoilt opens what was made, with one thing or another changed.
func TestP31_2_Spoilt(t *testing.T) {
	for _, raw := range samples() {
		eachWay(max(len(raw), 2), func(o api.Options) {
			made, _ := choose.Make(o, raw)
			h, payload := parts(t, o, made)
			opens(t, o, h, payload, raw)
			opens(t, o, h, payload[:len(payload):len(payload)], raw)
			refuses(t, o, h, append(bytes.Clone(payload), 0), api.ErrPayload)
			if h.Coded > 0 {
				refuses(t, o, h, payload[:h.Coded-1], api.ErrPayload)
				refuses(t, o, h, nil, api.ErrPayload)
			}
			other := h
			other.Sum++
			refuses(t, o, other, payload, api.ErrChecksum)
			other = h
			other.From, other.At = -5, 1<<40
			opens(t, o, other, payload, raw)
			for _, more := range []int{-1, 1} {
				if h.Mode != 0 && h.Mid+more >= 0 {
					other = h
					other.Mid += more
					refusesAsTold(t, o, other, payload)
				}
				other = h
				other.Raw += more
				refusesAsTold(t, o, other, payload)
			}
		})
	}
}

// refusesAsTold asks for what the document's words say of a block, which is some error.
func refusesAsTold(t *testing.T, o api.Options, h api.Block, payload []byte) {
	t.Helper()
	_, e := toldOpen(o, h, payload)
	if e == api.OK {
		t.Fatalf("Open of %+v by %+v is right", h, o)
	}
	refuses(t, o, h, payload, e)
}

func TestP31_2_OtherModes(t *testing.T) {
	raw := rises(100, 2, 7)
	eachWay(200, func(o api.Options) {
		made, _ := choose.Make(o, raw)
		h, payload := parts(t, o, made)
		if h.Mode == 0 {
			return
		}
		for mode := 1; mode <= 5; mode++ {
			if mode != h.Mode {
				other := h
				other.Mode = mode
				refusesAsTold(t, o, other, payload)
			}
		}
		// A block's mode is its own: what the options say plays no part.
		for mode := range 7 {
			other := o
			other.Mode = mode
			opens(t, other, h, payload, raw)
		}
	})
}

func TestP31_2_Thrown(t *testing.T) {
	dice := rand.New(rand.NewSource(312))
	l := samples()
	seen := map[api.Errno]int{}
	for range 12000 {
		raw := l[dice.Intn(len(l))]
		o := api.Options{Block: 1 + dice.Intn(1500), Width: 1 << dice.Intn(4), Recipe: dice.Intn(11), Mode: dice.Intn(7)}
		by := o
		by.Block = 1500
		made, _ := choose.Make(by, raw)
		h, payload := parts(t, by, made)
		payload = bytes.Clone(payload)
		for range dice.Intn(3) {
			if len(payload) > 0 {
				payload[dice.Intn(len(payload))] ^= 1 << dice.Intn(8)
			}
		}
		if dice.Intn(8) == 0 {
			h.Mid += dice.Intn(9) - 4
		}
		if dice.Intn(8) == 0 {
			o.Recipe = dice.Intn(11)
		}
		kept := bytes.Clone(payload)
		want, e := toldOpen(o, h, payload)
		seen[e]++
		if e == api.OK {
			opens(t, o, h, payload, want)
		} else {
			refuses(t, o, h, payload, e)
		}
		if !bytes.Equal(payload, kept) {
			t.Fatalf("Open by %+v changed the payload", o)
		}
	}
	for _, e := range []api.Errno{api.OK, api.ErrLength, api.ErrPayload, api.ErrChecksum} {
		if seen[e] < 500 {
			t.Errorf("only %d of the error %d", seen[e], e)
		}
	}
}

func TestP31_2_MuchClaimed(t *testing.T) {
	for mode := 1; mode <= 5; mode++ {
		for way := range 11 {
			o := api.Options{Block: mostBlock, Width: 1, Recipe: way, Mode: mode}
			h := api.Block{Mode: mode, Raw: mostBlock, Mid: 3*mostBlock + 64, Coded: 40}
			refuses(t, o, h, bytes.Repeat([]byte{85}, 40), api.ErrPayload)
		}
	}
}

func TestP31_2_NewMemory(t *testing.T) {
	raw := rises(60, 2, 9)
	eachWay(120, func(o api.Options) {
		made, _ := choose.Make(o, raw)
		h, payload := parts(t, o, made)
		room := append(bytes.Clone(payload), bytes.Repeat([]byte{77}, 50)...)
		kept := bytes.Clone(room)
		b, _ := choose.Open(o, h, room[:h.Coded])
		clear(b[:cap(b)])
		if !bytes.Equal(room, kept) {
			t.Fatalf("Open by %+v changed what it was handed", o)
		}
		opens(t, o, h, payload, raw)
	})
}

func TestP31_3_RoundTrips(t *testing.T) {
	dice := rand.New(rand.NewSource(313))
	for range 60 {
		raw := anyBytes(dice, 1+dice.Intn(90))
		for i := range raw {
			raw[i] >>= dice.Intn(8)
		}
		eachWay(90, func(o api.Options) {
			made, e := choose.Make(o, raw)
			if e != api.OK {
				t.Fatalf("Make by %+v: %d", o, e)
			}
			h, payload := parts(t, o, made)
			if h.Raw != len(raw) || h.Coded != len(payload) || h.Sum != crc32.ChecksumIEEE(raw) {
				t.Errorf("Make by %+v: %+v of %d bytes, with a payload of %d", o, h, len(raw), len(payload))
			}
			opens(t, o, h, payload, raw)
		})
	}
}

func TestP31_3_LargeBlock(t *testing.T) {
	raw := rises(mostBlock/8, 8, 5)
	o := api.Options{Block: mostBlock, Width: 8, Recipe: 2, Mode: api.Rice}
	made, e := choose.Make(o, raw)
	if e != api.OK || len(made) > 1<<19 {
		t.Fatalf("Make: %d bytes, %d", len(made), e)
	}
	h, payload := parts(t, o, made)
	if b, e := choose.Open(o, h, payload); e != api.OK || !bytes.Equal(b, raw) {
		t.Errorf("Open: %d bytes, %d", len(b), e)
	}
}

func TestP31_4_Size(t *testing.T) {
	dice := rand.New(rand.NewSource(314))
	for _, n := range []int{1, 2, 127, 128, 300} {
		raw := anyBytes(dice, n)
		eachWay(n, func(o api.Options) {
			if b, _ := choose.Make(o, raw); len(b) > n+9 {
				t.Errorf("Make of %d bytes by %+v: %d bytes", n, o, len(b))
			}
		})
	}
	raw := anyBytes(dice, mostBlock)
	for _, o := range []api.Options{{Block: mostBlock, Width: 1, Mode: api.Stored}, {Block: mostBlock, Width: 8, Recipe: 8, Mode: api.Rice}} {
		if b, e := choose.Make(o, raw); e != api.OK || len(b) != mostBlock+9 {
			t.Errorf("Make of random bytes by %+v: %d bytes, %d", o, len(b), e)
		}
	}
}
