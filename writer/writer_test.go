package writer_test

import (
	"bytes"
	"encoding/binary"
	"hash/crc32"
	"math"
	"math/rand"
	"runtime"
	"testing"

	"winepress/api"
	"winepress/choose"
	"winepress/whole"
	"winepress/writer"
)

const mostBlock = 1 << 24

// options is options with so many bytes of a block.
func options(n int) api.Options {
	return api.Options{Block: n, Width: 1, Recipe: 0, Mode: api.Auto}
}

// stored is options by which each block is stored.
func stored(n int) api.Options {
	return api.Options{Block: n, Width: 1, Recipe: 0, Mode: api.Stored}
}

// wrongOptions is options that may not be.
func wrongOptions() []api.Options {
	return []api.Options{
		{}, {Block: 0, Width: 1, Mode: 1}, {Block: -1, Width: 1}, {Block: mostBlock + 1, Width: 1, Mode: 6}, {Block: math.MaxInt, Width: 1},
		{Block: math.MinInt, Width: 1}, {Block: 9, Width: 0}, {Block: 9, Width: 3}, {Block: 9, Width: -1}, {Block: 9, Width: 16},
		{Block: 9, Width: 1, Recipe: -1}, {Block: 9, Width: 1, Recipe: 11}, {Block: 9, Width: 1, Mode: -1}, {Block: 9, Width: 1, Mode: 7},
		{Block: 1<<32 + 1, Width: 1}, {Block: 9, Width: 1, Mode: 256}, {Block: 9, Width: 257}, {Block: 9, Width: 1, Mode: math.MaxInt},
	}
}

// eachWay calls with the options of each width, recipe and mode.
func eachWay(n int, call func(o api.Options)) {
	for _, width := range []int{1, 2, 4, 8} {
		for way := range 11 {
			for mode := range 7 {
				call(api.Options{Block: n, Width: width, Recipe: way, Mode: mode})
			}
		}
	}
}

// joined is pieces one behind the other, in new memory.
func joined(pieces ...[]byte) []byte {
	return bytes.Join(pieces, nil)
}

// headOf is a head's bytes by the document's words.
func headOf(o api.Options) []byte {
	b := append([]byte("WPR1"), byte(o.Width), byte(o.Recipe), byte(o.Mode))
	b = binary.AppendUvarint(b, uint64(o.Block))
	return binary.LittleEndian.AppendUint32(b, crc32.ChecksumIEEE(b))
}

// storedOf is a stored block of bytes by the document's words.
func storedOf(raw []byte) []byte {
	b := binary.AppendUvarint([]byte{1}, uint64(len(raw)))
	return append(binary.LittleEndian.AppendUint32(b, crc32.ChecksumIEEE(raw)), raw...)
}

// blockOf is the block that choose makes of bytes.
func blockOf(t *testing.T, o api.Options, raw []byte) []byte {
	t.Helper()
	b, e := choose.Make(o, raw)
	if e != api.OK {
		t.Fatalf("Make of %d bytes by %+v: %d", len(raw), o, e)
	}
	return b
}

// endBehind is the end of a stream of bytes by the document's words.
func endBehind(x []byte) []byte {
	return binary.LittleEndian.AppendUint32(binary.AppendUvarint([]byte{0}, uint64(len(x))), crc32.ChecksumIEEE(x))
}

// rises is words of a width that rise by the same each time.
func rises(many, width, by int) []byte {
	var b []byte
	for i := range many {
		v := binary.LittleEndian.AppendUint64(nil, uint64(i*by))
		b = append(b, v[:width]...)
	}
	return b
}

// anyBytes is bytes of which nothing can be told.
func anyBytes(dice *rand.Rand, n int) []byte {
	b := make([]byte, n)
	dice.Read(b)
	return b
}

// samples is bytes of several kinds, and lengths.
func samples() [][]byte {
	dice := rand.New(rand.NewSource(34))
	l := [][]byte{nil, {}, {0}, {255}, []byte("ab"), []byte("abcdef"), make([]byte, 400), bytes.Repeat([]byte("the same, and "), 20)}
	for _, n := range []int{1, 7, 8, 9, 64, 127, 300} {
		l = append(l, anyBytes(dice, n))
	}
	for _, width := range []int{1, 2, 4, 8} {
		l = append(l, rises(50, width, 3), append(rises(40, width, 1<<20+7), 1))
	}
	return l
}

// anyOptions is options of blocks that aren't large.
func anyOptions(dice *rand.Rand) api.Options {
	return api.Options{Block: 1 + dice.Intn(1<<(1+dice.Intn(9))), Width: 1 << dice.Intn(4), Recipe: dice.Intn(11), Mode: dice.Intn(7)}
}

// opened is a writer that is open.
func opened(t *testing.T, o api.Options) *writer.Writer {
	t.Helper()
	w, e := writer.New(o)
	if e != api.OK || w == nil {
		t.Fatalf("New of %+v: %v, %d", o, w, e)
	}
	return w
}

// does asks for an answer.
func does(t *testing.T, what string, e, want api.Errno) {
	t.Helper()
	if e != want {
		t.Fatalf("%s: %d, not %d", what, e, want)
	}
}

// holds asks for how many bytes wait.
func holds(t *testing.T, w *writer.Writer, want int) {
	t.Helper()
	if n := w.Held(); n != want {
		t.Fatalf("Held: %d, not %d", n, want)
	}
}

// takes asks for just these bytes.
func takes(t *testing.T, w *writer.Writer, want []byte) {
	t.Helper()
	if b := w.Take(); !bytes.Equal(b, want) {
		t.Fatalf("Take: %d bytes, %v, not %d, %v", len(b), b[:min(len(b), 60)], len(want), want[:min(len(want), 60)])
	}
}

// twin does what the document's words say a writer does, a byte at a time.
type twin struct {
	t       *testing.T
	options api.Options
	waits   []byte
	all     []byte // all bytes that came
	out     []byte
}

// twinOf is the twin of a writer that New made.
func twinOf(t *testing.T, o api.Options) *twin {
	return &twin{t: t, options: o, out: headOf(o)}
}

func (w *twin) write(b []byte) {
	w.t.Helper()
	for _, c := range b {
		w.all = append(w.all, c)
		if w.waits = append(w.waits, c); len(w.waits) == w.options.Block {
			w.flush()
		}
	}
}

func (w *twin) flush() {
	w.t.Helper()
	if len(w.waits) > 0 {
		w.out = append(w.out, blockOf(w.t, w.options, w.waits)...)
		w.waits = nil
	}
}

func (w *twin) close() {
	w.t.Helper()
	w.flush()
	w.out = append(w.out, endBehind(w.all)...)
}

func (w *twin) take() []byte {
	b := w.out
	w.out = nil
	return b
}

// alike holds a writer against its twin.
func alike(t *testing.T, w *writer.Writer, want *twin) {
	t.Helper()
	holds(t, w, len(want.waits))
	takes(t, w, want.take())
}

// pressed is all that is taken of a writer that is closed, once pieces were written.
func pressed(t *testing.T, o api.Options, pieces ...[]byte) []byte {
	t.Helper()
	w := opened(t, o)
	for _, b := range pieces {
		does(t, "Write", w.Write(b), api.OK)
	}
	does(t, "Close", w.Close(), api.OK)
	return w.Take()
}

// piecesOf is bytes in pieces, some of which are empty.
func piecesOf(dice *rand.Rand, x []byte) [][]byte {
	var l [][]byte
	for len(x) > 0 {
		n := dice.Intn(min(len(x), 1<<dice.Intn(10)) + 1)
		l, x = append(l, x[:n]), x[n:]
	}
	return l
}

func TestP34_1_New(t *testing.T) {
	for _, n := range []int{1, 4, 300, 65536, mostBlock} {
		eachWay(n, func(o api.Options) {
			w := opened(t, o)
			holds(t, w, 0)
			takes(t, w, headOf(o))
			takes(t, w, nil)
			does(t, "Write", w.Write(nil), api.OK)
			does(t, "Flush", w.Flush(), api.OK)
			takes(t, w, nil)
			does(t, "Close", w.Close(), api.OK)
		})
	}
}

func TestP34_1_Example(t *testing.T) {
	eachWay(4, func(o api.Options) {
		w := opened(t, o)
		does(t, "Close", w.Close(), api.OK)
		takes(t, w, joined(headOf(o), make([]byte, 6)))
	})
}

func TestP34_1_WrongOptions(t *testing.T) {
	for _, o := range wrongOptions() {
		w, e := writer.New(o)
		if w != nil || e != api.ErrOptions {
			t.Errorf("New of %+v: %v, %d", o, w, e)
		}
	}
}

func TestP34_1_EachHasItsOwn(t *testing.T) {
	a, b := opened(t, options(4)), opened(t, stored(2))
	does(t, "Write", a.Write([]byte("abcde")), api.OK)
	does(t, "Write", b.Write([]byte("xyz")), api.OK)
	does(t, "Close", a.Close(), api.OK)
	holds(t, b, 1)
	takes(t, b, joined(headOf(stored(2)), storedOf([]byte("xy"))))
	does(t, "Write", b.Write([]byte("z")), api.OK)
	takes(t, b, storedOf([]byte("zz")))
	takes(t, a, joined(headOf(options(4)), storedOf([]byte("abcd")), storedOf([]byte("e")), endBehind([]byte("abcde"))))
}

// TestP34_2_ExampleOfTheWhole is the document's sixth example of the whole.
func TestP34_2_ExampleOfTheWhole(t *testing.T) {
	w := opened(t, options(4))
	does(t, "Write", w.Write([]byte("abcdef")), api.OK)
	holds(t, w, 2)
	does(t, "Flush", w.Flush(), api.OK)
	holds(t, w, 0)
	does(t, "Close", w.Close(), api.OK)
	does(t, "Write", w.Write([]byte("g")), api.ErrClosed)
	takes(t, w, joined(
		headOf(options(4)),
		[]byte{1, 4, 0x11, 0xcd, 0x82, 0xed}, []byte("abcd"),
		[]byte{1, 2, 0x70, 0x49, 0x82, 0xfd}, []byte("ef"),
		[]byte{0, 6, 0xef, 0x39, 0x8e, 0x4b},
	))
}

func TestP34_2_Write(t *testing.T) {
	w := opened(t, stored(3))
	w.Take()
	for _, c := range []struct {
		b, out string
		held   int
	}{
		{"", "", 0}, {"a", "", 1}, {"", "", 1}, {"b", "", 2}, {"c", "abc", 0}, {"def", "def", 0}, {"g", "", 1}, {"hij", "ghi", 1}, {"klmnop", "jkl,mno", 1},
		{"qrstuvw", "pqr,stu", 2}, {"x", "vwx", 0}, {"yz", "", 2}, {"abcd", "yza,bcd", 0}, {"efghij", "efg,hij", 0},
	} {
		does(t, "Write of "+c.b, w.Write([]byte(c.b)), api.OK)
		var want []byte
		for _, raw := range bytes.FieldsFunc([]byte(c.out), func(r rune) bool { return r == ',' }) {
			want = append(want, storedOf(raw)...)
		}
		holds(t, w, c.held)
		takes(t, w, want)
	}
}

// TestP34_2_WriteOfManyBlocks has pieces of more bytes than a block, and of some more or fewer.
func TestP34_2_WriteOfManyBlocks(t *testing.T) {
	dice := rand.New(rand.NewSource(342))
	for _, n := range []int{1, 2, 3, 10, 127, 128} {
		for mode := range 7 {
			o := api.Options{Block: n, Width: 2, Recipe: 1, Mode: mode}
			w, want := opened(t, o), twinOf(t, o)
			for many := range 5 {
				for more := -1; more <= 1; more++ {
					x := anyBytes(dice, max(n*many+more, 0))
					does(t, "Write", w.Write(x), api.OK)
					want.write(x)
					alike(t, w, want)
				}
			}
		}
	}
}

func TestP34_2_Flush(t *testing.T) {
	w := opened(t, stored(4))
	w.Take()
	for _, raw := range []string{"a", "bc", "def", "g"} {
		does(t, "Write", w.Write([]byte(raw)), api.OK)
		takes(t, w, nil)
		does(t, "Flush", w.Flush(), api.OK)
		holds(t, w, 0)
		takes(t, w, storedOf([]byte(raw)))
		// Where nothing waits, nothing goes out.
		does(t, "Flush", w.Flush(), api.OK)
		takes(t, w, nil)
	}
	// Block of them are counted anew from there.
	does(t, "Write", w.Write([]byte("hij")), api.OK)
	holds(t, w, 3)
	does(t, "Write", w.Write([]byte("kl")), api.OK)
	holds(t, w, 1)
	takes(t, w, storedOf([]byte("hijk")))
	does(t, "Write", w.Write([]byte("mno")), api.OK)
	takes(t, w, storedOf([]byte("lmno")))
	does(t, "Flush", w.Flush(), api.OK)
	takes(t, w, nil)
	does(t, "Close", w.Close(), api.OK)
	takes(t, w, endBehind([]byte("abcdefghijklmno")))
}

func TestP34_2_Close(t *testing.T) {
	for _, c := range []struct{ written, waits string }{{"", ""}, {"a", "a"}, {"abc", "abc"}, {"abcd", ""}, {"abcde", "e"}, {"abcdefgh", ""}, {"abcdefghijk", "ijk"}} {
		for _, flushed := range []bool{false, true} {
			w := opened(t, stored(4))
			does(t, "Write", w.Write([]byte(c.written)), api.OK)
			var want []byte
			if c.waits != "" {
				want = storedOf([]byte(c.waits))
			}
			w.Take()
			if flushed {
				does(t, "Flush", w.Flush(), api.OK)
				takes(t, w, want)
				want = nil
			}
			does(t, "Close", w.Close(), api.OK)
			holds(t, w, 0)
			takes(t, w, joined(want, endBehind([]byte(c.written))))
		}
	}
}

// TestP34_2_Thrown holds writers against their twins, whatever is done.
func TestP34_2_Thrown(t *testing.T) {
	dice := rand.New(rand.NewSource(343))
	l := samples()
	for range 400 {
		o := anyOptions(dice)
		w, want := opened(t, o), twinOf(t, o)
		for range dice.Intn(30) {
			switch dice.Intn(4) {
			case 0:
				does(t, "Flush", w.Flush(), api.OK)
				want.flush()
			case 1:
				alike(t, w, want)
			default:
				x := l[dice.Intn(len(l))]
				x = x[:dice.Intn(len(x)+1)]
				does(t, "Write", w.Write(x), api.OK)
				want.write(x)
			}
			holds(t, w, len(want.waits))
		}
		does(t, "Close", w.Close(), api.OK)
		want.close()
		alike(t, w, want)
	}
}

func TestP34_2_OfNil(t *testing.T) {
	var w *writer.Writer
	for _, b := range [][]byte{nil, {}, []byte("a"), make([]byte, 99)} {
		does(t, "Write of nil", w.Write(b), api.ErrNil)
	}
	does(t, "Flush of nil", w.Flush(), api.ErrNil)
	does(t, "Close of nil", w.Close(), api.ErrNil)
	does(t, "Close of nil", w.Close(), api.ErrNil)
	does(t, "Write of nil", w.Write(nil), api.ErrNil)
}

// TestP34_2_NoCallMadeIt has all calls end of a writer of which nothing else is said.
func TestP34_2_NoCallMadeIt(t *testing.T) {
	w := &writer.Writer{}
	for range 2 {
		w.Write(nil)
		w.Write([]byte("abc"))
		w.Flush()
		w.Take()
		w.Held()
		w.Close()
	}
}

func TestP34_2_NewMemory(t *testing.T) {
	x := rises(60, 2, 9)
	eachWay(50, func(o api.Options) {
		w, want := opened(t, o), twinOf(t, o)
		want.write(x)
		want.close()
		var rooms [][]byte
		for k := 0; k < len(x); k += 40 {
			room := joined(x[k:k+40], bytes.Repeat([]byte{77}, 50))
			kept := bytes.Clone(room)
			does(t, "Write", w.Write(room[:40]), api.OK)
			if !bytes.Equal(room, kept) {
				t.Fatalf("Write by %+v changed what it was handed", o)
			}
			// What waits isn't in the caller's memory, and nothing is laid there later.
			clear(room)
			rooms = append(rooms, room)
		}
		does(t, "Close", w.Close(), api.OK)
		alike(t, w, want)
		for _, room := range rooms {
			if !bytes.Equal(room, make([]byte, len(room))) {
				t.Fatalf("a writer by %+v changed what it was handed once", o)
			}
		}
	})
}

// TestP34_2_ByteByByte has a block that comes byte by byte end soon.
func TestP34_2_ByteByByte(t *testing.T) {
	x := anyBytes(rand.New(rand.NewSource(344)), 1<<20)
	o := stored(len(x))
	w := opened(t, o)
	for k := range x {
		does(t, "Write", w.Write(x[k:k+1]), api.OK)
		if k+1 < len(x) {
			holds(t, w, k+1)
		}
	}
	holds(t, w, 0)
	takes(t, w, joined(headOf(o), storedOf(x)))
}

func TestP34_2_LargeBlocks(t *testing.T) {
	x := joined(rises(mostBlock/8, 8, 5), []byte{1, 2, 3})
	o := stored(mostBlock)
	w := opened(t, o)
	does(t, "Write", w.Write(x[:mostBlock-1]), api.OK)
	holds(t, w, mostBlock-1)
	takes(t, w, headOf(o))
	does(t, "Write", w.Write(x[mostBlock-1:]), api.OK)
	holds(t, w, 3)
	takes(t, w, storedOf(x[:mostBlock]))
	does(t, "Close", w.Close(), api.OK)
	takes(t, w, joined(storedOf(x[mostBlock:]), endBehind(x)))
}

func TestP34_3_TakeInPieces(t *testing.T) {
	for _, x := range samples() {
		for mode := range 7 {
			o := api.Options{Block: 20, Width: 2, Recipe: 3, Mode: mode}
			w := opened(t, o)
			var got []byte
			for k := range x {
				does(t, "Write", w.Write(x[k:k+1]), api.OK)
				if k%3 == 0 {
					got = append(got, w.Take()...)
					takes(t, w, nil)
				}
			}
			does(t, "Close", w.Close(), api.OK)
			got = append(got, w.Take()...)
			if want := pressed(t, o, x); !bytes.Equal(got, want) {
				t.Fatalf("taken in pieces by %+v: %v, not %v", o, got, want)
			}
			takes(t, w, nil)
		}
	}
}

func TestP34_3_TakeLeavesWhatWaits(t *testing.T) {
	w := opened(t, stored(9))
	does(t, "Write", w.Write([]byte("abc")), api.OK)
	takes(t, w, headOf(stored(9)))
	holds(t, w, 3)
	takes(t, w, nil)
	holds(t, w, 3)
	does(t, "Flush", w.Flush(), api.OK)
	takes(t, w, storedOf([]byte("abc")))
}

func TestP34_3_NewMemory(t *testing.T) {
	eachWay(7, func(o api.Options) {
		w, want := opened(t, o), twinOf(t, o)
		var all [][]byte
		var kept []byte
		for _, x := range samples()[:10] {
			does(t, "Write", w.Write(x), api.OK)
			want.write(x)
			b := w.Take()
			kept = append(kept, b...)
			all = append(all, bytes.Clone(b))
			b = b[:cap(b)]
			for k := range b {
				b[k] = 99
			}
			if k := len(all) - 1; !bytes.Equal(all[k], want.take()) {
				t.Fatalf("what is taken by %+v is changed by who took it", o)
			}
		}
		if !bytes.Equal(joined(all...), kept) {
			t.Fatal("what was taken changed")
		}
	})
}

// TestP34_3_WhatWasTakenStays has nothing that is done later change it.
func TestP34_3_WhatWasTakenStays(t *testing.T) {
	w := opened(t, stored(5))
	does(t, "Write", w.Write([]byte("abcdefg")), api.OK)
	b := w.Take()
	kept := bytes.Clone(b)
	does(t, "Write", w.Write(bytes.Repeat([]byte("x"), 99)), api.OK)
	does(t, "Close", w.Close(), api.OK)
	w.Take()
	if !bytes.Equal(b, kept) {
		t.Errorf("%v was taken, and is %v now", kept, b)
	}
}

func TestP34_3_OfNil(t *testing.T) {
	var w *writer.Writer
	if b, n := w.Take(), w.Held(); len(b) != 0 || n != 0 {
		t.Errorf("Take of nil: %v, Held: %d", b, n)
	}
}

// TestP34_3_RoomIsLetGo has a writer keep no more room than what waits needs, however much was written at once.
func TestP34_3_RoomIsLetGo(t *testing.T) {
	const many = 1 << 25
	var before, after runtime.MemStats
	runtime.GC()
	runtime.ReadMemStats(&before)
	w := opened(t, stored(1<<16))
	does(t, "Write", w.Write(make([]byte, many+9)), api.OK)
	if n := len(w.Take()); n < many {
		t.Fatalf("%d bytes are taken", n)
	}
	runtime.GC()
	runtime.ReadMemStats(&after)
	if after.HeapAlloc > before.HeapAlloc+many/4 {
		t.Errorf("%d bytes are kept", after.HeapAlloc-before.HeapAlloc)
	}
	holds(t, w, 9)
}

func TestP34_4_HeldIsBelowBlock(t *testing.T) {
	dice := rand.New(rand.NewSource(345))
	for range 300 {
		n := 1 + dice.Intn(40)
		w := opened(t, stored(n))
		came := 0
		for range 30 {
			x := anyBytes(dice, dice.Intn(3*n))
			came += len(x)
			does(t, "Write", w.Write(x), api.OK)
			holds(t, w, came%n)
			if w.Held() >= n {
				t.Fatalf("%d bytes wait for a block of %d", w.Held(), n)
			}
		}
		does(t, "Flush", w.Flush(), api.OK)
		holds(t, w, 0)
	}
}

func TestP34_5_LikeCompress(t *testing.T) {
	dice := rand.New(rand.NewSource(346))
	for _, x := range samples() {
		eachWay(64, func(o api.Options) {
			want, e := whole.Compress(o, x)
			does(t, "Compress", e, api.OK)
			for _, pieces := range [][][]byte{{x}, {nil, x, {}}, piecesOf(dice, x)} {
				if s := pressed(t, o, pieces...); !bytes.Equal(s, want) {
					t.Fatalf("%d bytes in %d pieces by %+v: %v, not %v", len(x), len(pieces), o, s, want)
				}
			}
		})
	}
}

func TestP34_5_LikeCompressOfLargeBlocks(t *testing.T) {
	x := rises(60000, 4, 77)
	for _, o := range []api.Options{{Block: 65536, Width: 4, Recipe: 2, Mode: api.Rice}, {Block: 100000, Width: 4, Recipe: 5, Mode: api.Rans}, {Block: mostBlock, Width: 4, Recipe: 6, Mode: api.Huff}} {
		want, e := whole.Compress(o, x)
		does(t, "Compress", e, api.OK)
		for _, n := range []int{1, 1000, 65535, 65536, 65537, len(x)} {
			var pieces [][]byte
			for from := 0; from < len(x); from += n {
				pieces = append(pieces, x[from:min(from+n, len(x))])
			}
			if s := pressed(t, o, pieces...); !bytes.Equal(s, want) {
				t.Errorf("in pieces of %d by %+v: another stream", n, o)
			}
		}
	}
}

// TestP34_5_ValidWhereverItIsFlushed holds what the document's D5 says of its length, too.
func TestP34_5_ValidWhereverItIsFlushed(t *testing.T) {
	dice := rand.New(rand.NewSource(347))
	for round := range 300 {
		o := anyOptions(dice)
		w := opened(t, o)
		var x, s []byte
		flushes := 0
		for range dice.Intn(20) {
			b := anyBytes(dice, dice.Intn(90))
			if dice.Intn(2) == 0 {
				b = rises(dice.Intn(60), 1<<dice.Intn(4), dice.Intn(9))
			}
			does(t, "Write", w.Write(b), api.OK)
			x = append(x, b...)
			for dice.Intn(3) == 0 {
				does(t, "Flush", w.Flush(), api.OK)
				flushes++
			}
			if dice.Intn(3) == 0 {
				s = append(s, w.Take()...)
			}
		}
		does(t, "Close", w.Close(), api.OK)
		s = append(s, w.Take()...)
		if !whole.Valid(s, x) {
			t.Fatalf("in the round %d, by %+v: no stream of its %d bytes", round, o, len(x))
		}
		if blocks := (len(x) + o.Block - 1) / o.Block; len(s) > len(x)+24*(blocks+flushes+1)+32 {
			t.Errorf("%d bytes of %d, in %d blocks, flushed %d times", len(s), len(x), blocks, flushes)
		}
	}
}

// TestP34_5_AllFlushed has each byte in a block of its own, by each way.
func TestP34_5_AllFlushed(t *testing.T) {
	x := []byte("abcabcabcxyz")
	eachWay(9, func(o api.Options) {
		w, want := opened(t, o), twinOf(t, o)
		for k := range x {
			does(t, "Write", w.Write(x[k:k+1]), api.OK)
			does(t, "Flush", w.Flush(), api.OK)
			want.write(x[k : k+1])
			want.flush()
		}
		does(t, "Close", w.Close(), api.OK)
		want.close()
		holds(t, w, 0)
		s := w.Take()
		if !bytes.Equal(s, want.take()) || !whole.Valid(s, x) {
			t.Fatalf("by %+v: %v", o, s)
		}
	})
}

func TestP34_6_BehindClose(t *testing.T) {
	for _, written := range []string{"", "a", "abcdef"} {
		for _, took := range []bool{false, true} {
			w := opened(t, stored(4))
			does(t, "Write", w.Write([]byte(written)), api.OK)
			does(t, "Close", w.Close(), api.OK)
			want := pressed(t, stored(4), []byte(written))
			if took {
				takes(t, w, want)
				want = nil
			}
			for range 3 {
				for _, b := range [][]byte{nil, {}, []byte("a"), make([]byte, 99)} {
					does(t, "Write behind Close", w.Write(b), api.ErrClosed)
				}
				does(t, "Flush behind Close", w.Flush(), api.ErrClosed)
				does(t, "Close behind Close", w.Close(), api.ErrClosed)
				holds(t, w, 0)
			}
			takes(t, w, want)
			does(t, "Close behind Close", w.Close(), api.ErrClosed)
			takes(t, w, nil)
		}
	}
}
