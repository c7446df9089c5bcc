package head_test

import (
	"bytes"
	"encoding/binary"
	"hash/crc32"
	"math"
	"math/rand"
	"testing"

	"winepress/api"
	"winepress/head"
)

const mostBlock = 1 << 24

// summed is bytes, and their sum behind them.
func summed(b ...byte) []byte {
	return binary.LittleEndian.AppendUint32(bytes.Clone(b), crc32.ChecksumIEEE(b))
}

// laid is a head's bytes by the document's words, whatever the options are.
func laid(width, recipe, mode byte, block ...byte) []byte {
	return summed(append([]byte{'W', 'P', 'R', '1', width, recipe, mode}, block...)...)
}

// number is a number as few bytes.
func number(n uint64) []byte { return binary.AppendUvarint(nil, n) }

// all calls with options of each kind that may be.
func all(call func(o api.Options)) {
	for _, block := range []int{1, 2, 127, 128, 129, 16383, 16384, 65536, 1<<21 - 1, 1 << 21, mostBlock - 1, mostBlock} {
		for _, width := range []int{1, 2, 4, 8} {
			for recipe := range 11 {
				for mode := range 7 {
					call(api.Options{Block: block, Width: width, Recipe: recipe, Mode: mode})
				}
			}
		}
	}
}

// puts asks for just these bytes.
func puts(t *testing.T, o api.Options, want []byte) {
	t.Helper()
	if b, e := head.Put(o); e != api.OK || !bytes.Equal(b, want) {
		t.Errorf("Put of %+v: %v, %d, not %v", o, b, e, want)
	}
}

// gets asks for just these options, and this size.
func gets(t *testing.T, b []byte, o api.Options, size int) {
	t.Helper()
	if got, n, e := head.Get(b); got != o || n != size || e != api.OK {
		t.Errorf("Get of %v: %+v, %d, %d, not %+v, %d", b[:min(len(b), 30)], got, n, e, o, size)
	}
}

// refuses asks for an error, and nothing beside it.
func refuses(t *testing.T, b []byte, e api.Errno) {
	t.Helper()
	if got, n, f := head.Get(b); got != (api.Options{}) || n != 0 || f != e {
		t.Errorf("Get of %v: %+v, %d, %d, not %d", b[:min(len(b), 30)], got, n, f, e)
	}
}

func TestP29_1_Example(t *testing.T) {
	puts(t, api.Options{Block: 1, Width: 1, Recipe: 0, Mode: 0}, summed('W', 'P', 'R', '1', 1, 0, 0, 1))
}

func TestP29_1_Vectors(t *testing.T) {
	puts(t, api.Options{Block: 1, Width: 1, Recipe: 0, Mode: 0}, []byte{'W', 'P', 'R', '1', 1, 0, 0, 1, 56, 163, 168, 11})
	puts(t, api.Options{Block: 65536, Width: 1, Recipe: 0, Mode: 6}, laid(1, 0, 6, 128, 128, 4))
	puts(t, api.Options{Block: 300, Width: 8, Recipe: 10, Mode: 5}, laid(8, 10, 5, 172, 2))
	puts(t, api.Options{Block: mostBlock, Width: 4, Recipe: 3, Mode: 1}, laid(4, 3, 1, 128, 128, 128, 8))
}

func TestP29_1_Put(t *testing.T) {
	all(func(o api.Options) {
		puts(t, o, laid(byte(o.Width), byte(o.Recipe), byte(o.Mode), number(uint64(o.Block))...))
	})
}

func TestP29_1_WrongOptions(t *testing.T) {
	for _, o := range []api.Options{
		{}, {Block: 0, Width: 1, Recipe: 0, Mode: 0}, {Block: -1, Width: 1, Recipe: 0, Mode: 0},
		{Block: mostBlock + 1, Width: 1, Recipe: 0, Mode: 0}, {Block: math.MinInt, Width: 1, Recipe: 0, Mode: 0},
		{Block: 1<<32 + 1, Width: 1, Recipe: 0, Mode: 0}, {Block: 1, Width: 0, Recipe: 0, Mode: 0},
		{Block: 1, Width: 3, Recipe: 0, Mode: 0}, {Block: 1, Width: 257, Recipe: 0, Mode: 0},
		{Block: 1, Width: -1, Recipe: 0, Mode: 0}, {Block: 1, Width: 1, Recipe: -1, Mode: 0},
		{Block: 1, Width: 1, Recipe: 11, Mode: 0}, {Block: 1, Width: 1, Recipe: 256, Mode: 0},
		{Block: 1, Width: 1, Recipe: 0, Mode: -1}, {Block: 1, Width: 1, Recipe: 0, Mode: 7},
		{Block: 1, Width: 1, Recipe: 0, Mode: 256}, {Block: math.MaxInt, Width: math.MaxInt, Recipe: math.MaxInt, Mode: math.MaxInt},
	} {
		if b, e := head.Put(o); len(b) != 0 || e != api.ErrOptions {
			t.Errorf("Put of %+v: %v, %d", o, b, e)
		}
	}
}

func TestP29_1_NewMemory(t *testing.T) {
	o := api.Options{Block: 5, Width: 2, Recipe: 1, Mode: 2}
	b, _ := head.Put(o)
	clear(b[:cap(b)])
	puts(t, o, laid(2, 1, 2, 5))
}

func TestP29_2_Letters(t *testing.T) {
	good := laid(1, 0, 0, 1)
	for at := range 4 {
		for c := range 256 {
			if byte(c) == good[at] {
				continue
			}
			b := bytes.Clone(good)
			b[at] = byte(c)
			// As soon as it is another one: whatever is behind, and though nothing is.
			for end := at + 1; end <= len(b); end++ {
				refuses(t, b[:end], api.ErrMagic)
			}
			refuses(t, append(b[:at+1:at+1], 255, 255, 255, 255, 255, 255, 255, 255, 255, 255, 255, 255, 255, 255, 255, 255), api.ErrMagic)
		}
	}
	refuses(t, []byte("wpr1"), api.ErrMagic)
	refuses(t, []byte("1RPW"), api.ErrMagic)
	refuses(t, []byte("WPR2"), api.ErrMagic)
	refuses(t, []byte("WX"), api.ErrMagic)
	refuses(t, []byte{0}, api.ErrMagic)
}

func TestP29_2_EndsTooEarly(t *testing.T) {
	refuses(t, nil, api.ErrTruncated)
	refuses(t, []byte{}, api.ErrTruncated)
	// What stands behind the letters is looked at no sooner than with the sum.
	bad := laid(0, 255, 255, 255, 255, 255, 255, 255, 255, 255, 255, 255, 1)
	for end := range len(bad) {
		refuses(t, bad[:end], api.ErrTruncated)
	}
	refuses(t, bad, api.ErrHeader)
	for end := range 8 {
		b := []byte{'W', 'P', 'R', '1', 1, 0, 0, 0, 9, 9, 9, 9}[:end]
		refuses(t, b, api.ErrTruncated)
	}
}

func TestP29_2_OtherForms(t *testing.T) {
	begin := []byte{'W', 'P', 'R', '1', 1, 0, 0}
	for _, form := range [][]byte{
		{128, 0}, {129, 0}, {255, 0}, {128, 128, 0}, {129, 128, 128, 0}, {255, 255, 255, 255, 255, 255, 255, 255, 255, 2},
		{128, 128, 128, 128, 128, 128, 128, 128, 128, 2}, {128, 128, 128, 128, 128, 128, 128, 128, 128, 128},
		{255, 255, 255, 255, 255, 255, 255, 255, 255, 255}, {128, 128, 128, 128, 128, 128, 128, 128, 128, 0},
	} {
		b := append(bytes.Clone(begin), form...)
		for end := range len(b) {
			refuses(t, b[:end], api.ErrTruncated)
		}
		// No sum is needed for that, and none helps.
		refuses(t, b[:len(b):len(b)], api.ErrHeader)
		refuses(t, append(b, 0), api.ErrHeader)
		refuses(t, summed(b...), api.ErrHeader)
	}
}

func TestP29_2_MayNotBe(t *testing.T) {
	for _, block := range []uint64{0, mostBlock + 1, 1 << 31, 1 << 32, 1<<32 + 1, 1<<63 - 1, 1 << 63, 1<<63 + 1, 1<<64 - 1} {
		b := laid(1, 0, 0, number(block)...)
		refuses(t, b, api.ErrHeader)
		for end := range len(b) {
			refuses(t, b[:end], api.ErrTruncated)
		}
	}
	for c := range 256 {
		c := byte(c)
		if c != 1 && c != 2 && c != 4 && c != 8 {
			refuses(t, laid(c, 0, 0, 1), api.ErrHeader)
		}
		if c > 10 {
			refuses(t, laid(1, c, 0, 1), api.ErrHeader)
		}
		if c > 6 {
			refuses(t, laid(1, 0, c, 1), api.ErrHeader)
		}
	}
}

func TestP29_2_OtherSums(t *testing.T) {
	for _, good := range [][]byte{laid(1, 0, 0, 1), laid(8, 10, 6, 128, 128, 128, 8), laid(4, 3, 2, 172, 2)} {
		for at := 4; at < len(good); at++ {
			for turn := 1; turn < 256; turn++ {
				b := bytes.Clone(good)
				b[at] ^= byte(turn)
				if o, n, e := head.Get(b); o != (api.Options{}) || n != 0 || e != api.ErrHeader && e != api.ErrTruncated {
					t.Errorf("Get of %v: %+v, %d, %d", b, o, n, e)
				}
				if at >= len(good)-4 || at < 7 {
					refuses(t, b, api.ErrHeader)
				}
			}
		}
	}
	// The sum is the lowest byte first.
	refuses(t, []byte{'W', 'P', 'R', '1', 1, 0, 0, 1, 11, 168, 163, 56}, api.ErrHeader)
}

// told is what the document's words say of bytes.
func told(b []byte) (api.Options, int, api.Errno) {
	for i := range 4 {
		if i == len(b) {
			return api.Options{}, 0, api.ErrTruncated
		}
		if b[i] != "WPR1"[i] {
			return api.Options{}, 0, api.ErrMagic
		}
	}
	var block uint64
	at := 7
	for k := 0; ; k++ {
		if at+k >= len(b) {
			return api.Options{}, 0, api.ErrTruncated
		}
		c := b[at+k]
		if k == 9 && c > 1 || k > 0 && c == 0 {
			return api.Options{}, 0, api.ErrHeader
		}
		block |= uint64(c&127) << (7 * k)
		if c < 128 {
			at += k + 1
			break
		}
	}
	if len(b) < at+4 {
		return api.Options{}, 0, api.ErrTruncated
	}
	right := binary.LittleEndian.Uint32(b[at:]) == crc32.ChecksumIEEE(b[:at])
	width := b[4] == 1 || b[4] == 2 || b[4] == 4 || b[4] == 8
	if !right || !width || b[5] > 10 || b[6] > 6 || block < 1 || block > mostBlock {
		return api.Options{}, 0, api.ErrHeader
	}
	return api.Options{Block: int(block), Width: int(b[4]), Recipe: int(b[5]), Mode: int(b[6])}, at + 4, api.OK
}

// thrown is the beginning of a stream, or something like it.
func thrown(dice *rand.Rand) []byte {
	b := []byte("WPR1")
	b = append(b, byte(1<<dice.Intn(4)), byte(dice.Intn(12)), byte(dice.Intn(8)))
	b = append(b, number(dice.Uint64()>>dice.Intn(64))...)
	if dice.Intn(8) == 0 {
		b[dice.Intn(len(b))] = byte(dice.Intn(256))
	}
	b = summed(b...)
	if dice.Intn(8) == 0 {
		b[dice.Intn(len(b))] ^= 1 << dice.Intn(8)
	}
	for range dice.Intn(5) {
		b = append(b, byte(dice.Intn(256)))
	}
	if dice.Intn(4) == 0 {
		b = b[:dice.Intn(len(b)+1)]
	}
	return b
}

func TestP29_2_Thrown(t *testing.T) {
	dice := rand.New(rand.NewSource(29))
	seen := map[api.Errno]int{}
	for range 60000 {
		b := thrown(dice)
		kept := bytes.Clone(b)
		o, size, e := told(b)
		seen[e]++
		if e == api.OK {
			gets(t, b, o, size)
		} else {
			refuses(t, b, e)
		}
		if !bytes.Equal(b, kept) {
			t.Fatalf("Get changed %v to %v", kept, b)
		}
	}
	for _, e := range []api.Errno{api.OK, api.ErrMagic, api.ErrTruncated, api.ErrHeader} {
		if seen[e] < 500 {
			t.Errorf("only %d of the error %d", seen[e], e)
		}
	}
}

func TestP29_3_RoundTrips(t *testing.T) {
	all(func(o api.Options) {
		b, _ := head.Put(o)
		gets(t, b, o, len(b))
		gets(t, append(b[:len(b):len(b)], 0), o, len(b))
		gets(t, append(b[:len(b):len(b)], b...), o, len(b))
		gets(t, append(b[:len(b):len(b)], bytes.Repeat([]byte{255}, 50)...), o, len(b))
		for end := range len(b) {
			// With and without the rest in the room behind.
			refuses(t, b[:end], api.ErrTruncated)
			refuses(t, b[:end:end], api.ErrTruncated)
		}
	})
}

func TestP29_4_Size(t *testing.T) {
	longest := 0
	all(func(o api.Options) {
		b, _ := head.Put(o)
		if len(b) < 12 || len(b) > 15 {
			t.Errorf("Put of %+v: %d bytes", o, len(b))
		}
		longest = max(longest, len(b))
	})
	if longest != 15 {
		t.Errorf("the longest head has %d bytes", longest)
	}
}
