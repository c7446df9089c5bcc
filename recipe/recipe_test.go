package recipe_test

import (
	"bytes"
	"math"
	"math/rand"
	"slices"
	"testing"

	"winepress/api"
	"winepress/recipe"
)

var widths = []int{1, 2, 4, 8}

// wrong is widths that are not right.
var wrong = []int{0, -1, -2, -4, -8, 3, 5, 6, 7, 9, 16, 32, 64, 256, 257, 1<<32 + 1, math.MaxInt, math.MinInt}

// none is numbers that no recipe has.
var none = []int{-1, -2, -11, 11, 12, 100, 256, 1<<32 + 1, math.MaxInt, math.MinInt}

// tooMany is numbers that bytes of a block never have.
var tooMany = []int{-1, -2, -64, api.MaxBlock + 1, api.MaxBlock + 2, 1 << 25, 1<<32 + 1, math.MaxInt, math.MinInt}

// pair is bytes, and what a recipe makes of them.
type pair struct {
	n, width int
	b, mid   []byte
}

var pairs = []pair{
	{0, 1, []byte{1, 2, 4}, []byte{1, 2, 4}},
	{0, 8, []byte{1, 2, 4}, []byte{1, 2, 4}},
	{1, 1, []byte{1, 2, 4}, []byte{2, 2, 4}},
	{1, 1, []byte{1, 2, 1, 255}, []byte{2, 2, 1, 3}},
	{1, 2, []byte{5, 0, 7, 0, 6, 0, 9}, []byte{10, 0, 4, 0, 1, 0, 9}},
	{1, 4, []byte{1, 0, 0, 0, 0, 0, 0, 0, 9, 8, 7}, []byte{2, 0, 0, 0, 1, 0, 0, 0, 9, 8, 7}},
	{1, 8, []byte{1, 2, 3, 4, 5, 6, 7}, []byte{1, 2, 3, 4, 5, 6, 7}}, // no whole word
	{2, 1, []byte{10, 13, 16, 19}, []byte{20, 13, 0, 0}},
	{2, 2, []byte{10, 0, 13, 0, 16, 0, 19, 0, 77}, []byte{20, 0, 13, 0, 0, 0, 0, 0, 77}},
	{3, 1, []byte{5, 7, 7}, []byte{5, 2, 0}},
	{3, 2, []byte{5, 1, 7, 1, 7, 2, 6}, []byte{5, 1, 2, 0, 0, 3, 6}},
	{4, 1, []byte{1, 2, 3, 4, 5}, []byte{1, 2, 3, 4, 5}},
	{4, 2, []byte{1, 2, 3, 4, 5}, []byte{1, 3, 2, 4, 5}},
	{5, 1, []byte{1, 2, 4}, []byte{2, 2, 4}},
	{5, 2, []byte{5, 0, 7, 0, 6, 0, 9}, []byte{10, 4, 1, 0, 0, 0, 9}},
	{6, 2, []byte{10, 0, 13, 0, 16, 0, 19, 0, 77}, []byte{20, 13, 0, 0, 0, 0, 0, 0, 77}},
	{7, 2, []byte{5, 1, 7, 1, 7, 2, 6}, []byte{5, 2, 0, 1, 0, 3, 6}},
	{8, 1, []byte{5, 4}, []byte{5, 31, 64}},
	{8, 1, []byte{5, 5, 5}, []byte{5, 0}},
	{8, 2, []byte{5, 0, 5, 0, 99}, []byte{5, 0, 0, 99}},
	{8, 2, []byte{5, 9, 99}, []byte{5, 9, 99}}, // one word
	{8, 8, []byte{5, 4, 3}, []byte{5, 4, 3}},   // no whole word
	{9, 1, []byte{7, 7, 7, 7, 1}, []byte{129, 7, 0, 1}},
	{9, 4, []byte{7, 7, 7, 7, 1}, []byte{129, 7, 0, 1}},
	{10, 1, []byte{1, 2, 3, 4}, []byte{129, 2}},
	{10, 2, []byte{5, 0, 6, 0, 7, 0, 8, 0, 9}, []byte{0, 10, 128, 2, 129, 0, 0, 9}},
	{10, 8, []byte{9, 9, 9}, []byte{128, 9}}, // no whole word
}

func thrown(dice *rand.Rand, n int) []byte {
	b := make([]byte, n)
	dice.Read(b)
	return b
}

// kinds is bytes of several kinds: of any, of few, rising by the same, and all alike.
func kinds(dice *rand.Rand, n int) [][]byte {
	out := [][]byte{thrown(dice, n), thrown(dice, n), thrown(dice, n), bytes.Repeat([]byte{200}, n), make([]byte, n)}
	for k := range n {
		out[1][k] &= 1
		out[2][k] = byte(k * 3)
	}
	return out
}

// makes asks Go for just these bytes.
func makes(t *testing.T, b []byte, width, n int, want []byte) {
	t.Helper()
	if got, e := recipe.Go(b, width, n); e != api.OK || !bytes.Equal(got, want) {
		t.Errorf("Go of %v by %d, %d: %v, %d, not %v", b, width, n, got, e, want)
	}
}

// undoes asks Back for just these bytes.
func undoes(t *testing.T, mid []byte, width, n int, want []byte) {
	t.Helper()
	if got, e := recipe.Back(mid, width, n, len(want)); e != api.OK || !bytes.Equal(got, want) {
		t.Errorf("Back of %v by %d, %d: %v, %d, not %v", mid, width, n, got, e, want)
	}
}

// refused asks Back for an error, and nothing.
func refused(t *testing.T, mid []byte, width, n, raw int, want api.Errno) {
	t.Helper()
	if got, e := recipe.Back(mid, width, n, raw); e != want || len(got) != 0 {
		t.Errorf("Back of %d bytes by %d, %d, %d bytes: %d bytes, %d, not %d", len(mid), width, n, raw, len(got), e, want)
	}
}

// wontGo asks Go for ErrArg, and nothing.
func wontGo(t *testing.T, b []byte, width, n int) {
	t.Helper()
	if got, e := recipe.Go(b, width, n); e != api.ErrArg || len(got) != 0 {
		t.Errorf("Go of %d bytes by %d, %d: %d bytes, %d", len(b), width, n, len(got), e)
	}
}

// newMemory asks that a call leaves what it is handed, and the room behind it, and that its answer is nobody else's.
func newMemory(t *testing.T, b []byte, call func([]byte) ([]byte, api.Errno)) {
	t.Helper()
	room := append(bytes.Clone(b), 1, 2, 3, 4, 5)
	then := bytes.Clone(room)
	got, e := call(room[:len(b)])
	if e != api.OK || !bytes.Equal(room, then) {
		t.Error("what is handed in is changed", b, e)
	}
	want := bytes.Clone(got)
	clear(room)
	if !bytes.Equal(got, want) {
		t.Error("the answer is in the caller's memory", b)
	}
	copy(room, then)
	clear(got)
	_ = append(got, 99)
	if !bytes.Equal(room, then) {
		t.Error("the caller's memory is in the answer", b)
	}
}

func TestP11_1_Steps(t *testing.T) {
	want := [][]int{nil, {1, 3}, {2, 3}, {4}, {5}, {1, 3, 5}, {2, 3, 5}, {4, 5}, {6}, {7}, {1, 3, 5, 7}}
	for n, steps := range want {
		if got := recipe.Steps(n); !slices.Equal(got, steps) {
			t.Error(n, got)
		}
	}
	if len(want) != api.Recipes {
		t.Error(api.Recipes)
	}
}

func TestP11_1_NoRecipe(t *testing.T) {
	for _, n := range none {
		if got := recipe.Steps(n); len(got) != 0 {
			t.Error(n, got)
		}
	}
}

// What is handed out is nobody else's: who changes it changes no recipe.
func TestP11_1_NewMemory(t *testing.T) {
	for n := range api.Recipes {
		then := slices.Clone(recipe.Steps(n))
		got := recipe.Steps(n)
		clear(got)
		_ = append(got, 99)
		if !slices.Equal(recipe.Steps(n), then) {
			t.Error(n, recipe.Steps(n))
		}
	}
	b := []byte{1, 2, 4}
	clear(recipe.Steps(1))
	makes(t, b, 1, 1, []byte{2, 2, 4})
	undoes(t, []byte{2, 2, 4}, 1, 1, b)
}

func TestP11_2_Go(t *testing.T) {
	for _, c := range pairs {
		makes(t, c.b, c.width, c.n, c.mid)
	}
}

func TestP11_2_NoBytes(t *testing.T) {
	for n := range api.Recipes {
		for _, w := range widths {
			makes(t, nil, w, n, nil)
			makes(t, []byte{}, w, n, nil)
		}
	}
}

// Each recipe is its steps, which stand in the document, one behind the other, of bytes of every kind.
func TestP11_2_StepsOneBehindTheOther(t *testing.T) {
	dice := rand.New(rand.NewSource(1))
	for n := range api.Recipes {
		for _, w := range widths {
			for many := range 70 {
				for _, b := range kinds(dice, many) {
					makes(t, b, w, n, made(b, w, n))
				}
			}
		}
	}
}

func TestP11_2_WrongArg(t *testing.T) {
	for _, b := range [][]byte{nil, {1}, {1, 2, 3, 4, 5, 6, 7, 8, 9}} {
		for _, w := range wrong {
			for n := range api.Recipes {
				wontGo(t, b, w, n)
			}
			wontGo(t, b, w, -1)
		}
		for _, n := range none {
			for _, w := range widths {
				wontGo(t, b, w, n)
			}
		}
	}
}

func TestP11_2_TooManyBytes(t *testing.T) {
	b := make([]byte, api.MaxBlock+1)
	for n := range api.Recipes {
		for _, w := range widths {
			wontGo(t, b, w, n)
		}
	}
}

func TestP11_2_AsManyBytesAsMayBe(t *testing.T) {
	b := make([]byte, api.MaxBlock)
	b[0], b[api.MaxBlock-1] = 1, 2
	for n := range api.Recipes {
		mid, e := recipe.Go(b, 8, n)
		if e != api.OK {
			t.Fatal(n, e)
		}
		if got, e := recipe.Back(mid, 8, n, len(b)); e != api.OK || !bytes.Equal(got, b) {
			t.Error(n, len(got), e)
		}
	}
}

func TestP11_2_NewMemory(t *testing.T) {
	for n := range api.Recipes {
		for _, w := range widths {
			for _, many := range []int{0, 3, 17} {
				newMemory(t, thrown(rand.New(rand.NewSource(2)), many), func(b []byte) ([]byte, api.Errno) {
					return recipe.Go(b, w, n)
				})
			}
		}
	}
}

func TestP11_3_Back(t *testing.T) {
	for _, c := range pairs {
		undoes(t, c.mid, c.width, c.n, c.b)
	}
}

func TestP11_3_WrongArg(t *testing.T) {
	mids := [][]byte{nil, {1}, {129, 7, 0, 1}, make([]byte, 100)} // ErrArg is named first
	for _, mid := range mids {
		for _, raw := range []int{0, 1, 5, len(mid), api.MaxBlock} {
			for _, w := range wrong {
				for n := range api.Recipes {
					refused(t, mid, w, n, raw, api.ErrArg)
				}
			}
			for _, n := range none {
				for _, w := range widths {
					refused(t, mid, w, n, raw, api.ErrArg)
				}
			}
		}
		for _, raw := range tooMany {
			for n := range api.Recipes {
				for _, w := range widths {
					refused(t, mid, w, n, raw, api.ErrArg)
				}
			}
		}
	}
	refused(t, nil, 3, 11, -1, api.ErrArg)
	refused(t, make([]byte, api.MaxBlock+1), 1, 0, api.MaxBlock+1, api.ErrArg)
}

// Of recipes without Gorilla and Runs the bytes are as many as they were.
func TestP11_3_AnotherLength(t *testing.T) {
	for n := range 8 {
		for _, w := range widths {
			for many := range 20 {
				mid := make([]byte, many)
				for raw := range 40 {
					if raw != many {
						refused(t, mid, w, n, raw, api.ErrPayload)
					}
				}
				undoes(t, mid, w, n, make([]byte, many))
			}
			refused(t, make([]byte, 9), w, n, api.MaxBlock, api.ErrPayload)
			// Go takes no more than MaxBlock bytes, and Back has none then.
			refused(t, make([]byte, api.MaxBlock+1), w, n, api.MaxBlock, api.ErrPayload)
		}
	}
}

func TestP11_3_Gorilla(t *testing.T) {
	// Fewer bytes than are left behind the words.
	refused(t, nil, 2, 8, 1, api.ErrPayload)
	refused(t, nil, 8, 8, 7, api.ErrPayload)
	refused(t, []byte{1, 2, 3, 4, 5, 6}, 8, 8, 7, api.ErrPayload)
	// Just as many, and one byte more, or too few, ahead of them.
	undoes(t, []byte{1, 2, 3, 4, 5, 6, 7}, 8, 8, []byte{1, 2, 3, 4, 5, 6, 7})
	refused(t, []byte{0, 1, 2, 3, 4, 5, 6, 7}, 8, 8, 7, api.ErrPayload)
	refused(t, []byte{0, 0, 0, 1, 2, 3, 4}, 8, 8, 8, api.ErrPayload)
	refused(t, []byte{5, 0, 99}, 2, 8, 5, api.ErrPayload)
	refused(t, []byte{5, 0, 0, 0, 99}, 2, 8, 5, api.ErrPayload)
	// A 1 behind the words' bits; a window that is none.
	refused(t, []byte{5, 0, 2, 99}, 2, 8, 5, api.ErrPayload)
	refused(t, []byte{5, 1}, 1, 8, 2, api.ErrPayload)
	// What is left may be anything.
	undoes(t, []byte{5, 0, 0, 255}, 2, 8, []byte{5, 0, 5, 0, 255})
	// A window that is wider than it must be: 11, 000000, 111000, and 8 bits.
	undoes(t, []byte{5, 0x03, 0x07 | 0x40, 0}, 1, 8, []byte{5, 4})
	// Words that are only claimed.
	refused(t, []byte{5, 0, 0, 0}, 1, 8, api.MaxBlock, api.ErrPayload)
	refused(t, nil, 1, 8, 1, api.ErrPayload)
	refused(t, []byte{0}, 1, 8, 0, api.ErrPayload)
}

func TestP11_3_Runs(t *testing.T) {
	for _, w := range widths {
		// Not whole pieces; of more bytes, or of fewer, than there were.
		refused(t, []byte{129}, w, 9, 4, api.ErrPayload)
		refused(t, []byte{3, 1, 2, 3}, w, 9, 4, api.ErrPayload)
		refused(t, []byte{129, 7, 0, 1}, w, 9, 4, api.ErrPayload)
		refused(t, []byte{129, 7, 0, 1}, w, 9, 6, api.ErrPayload)
		refused(t, []byte{129, 7}, w, 9, 0, api.ErrPayload)
		refused(t, nil, w, 9, 1, api.ErrPayload)
		refused(t, []byte{255, 7}, w, 9, api.MaxBlock, api.ErrPayload)
		// Other pieces than Go has.
		undoes(t, []byte{0, 7, 0, 7, 128, 7}, w, 9, []byte{7, 7, 7, 7, 7})
		undoes(t, []byte{2, 7, 7, 7}, w, 9, []byte{7, 7, 7})
	}
}

// Runs are undone first, and must tell as many bytes as there were.
func TestP11_3_RunsBehindOthers(t *testing.T) {
	refused(t, []byte{129, 2}, 1, 10, 5, api.ErrPayload)
	refused(t, []byte{129, 2}, 1, 10, 3, api.ErrPayload)
	refused(t, []byte{129}, 1, 10, 4, api.ErrPayload)
	refused(t, []byte{2, 2, 2, 2}, 1, 10, 4, api.ErrPayload)
	refused(t, nil, 1, 10, 1, api.ErrPayload)
	refused(t, []byte{255, 0}, 1, 10, api.MaxBlock, api.ErrPayload)
	undoes(t, []byte{3, 2, 2, 2, 2}, 1, 10, []byte{1, 2, 3, 4})
	undoes(t, []byte{0, 2, 128, 2}, 1, 10, []byte{1, 2, 3, 4})
}

// Whatever bytes: a length that was never there is refused, and what is told is what the steps undo.
func TestP11_3_WhateverBytes(t *testing.T) {
	dice := rand.New(rand.NewSource(3))
	for range 20000 {
		n, w, raw := dice.Intn(api.Recipes), widths[dice.Intn(4)], dice.Intn(20)
		mid := thrown(dice, dice.Intn(20))
		if dice.Intn(2) == 0 { // near what Go has
			mid, _ = recipe.Go(thrown(dice, raw), w, n)
			if len(mid) > 0 {
				mid[dice.Intn(len(mid))] ^= 1 << dice.Intn(8)
			}
		}
		want, ok := unmade(mid, w, n, raw)
		if !ok {
			refused(t, mid, w, n, raw, api.ErrPayload)
			continue
		}
		if len(want) != raw {
			t.Fatal(n, w, raw, len(want))
		}
		undoes(t, mid, w, n, want)
	}
}

func TestP11_3_NewMemory(t *testing.T) {
	for n := range api.Recipes {
		for _, w := range widths {
			for _, many := range []int{0, 3, 17} {
				mid, _ := recipe.Go(thrown(rand.New(rand.NewSource(4)), many), w, n)
				newMemory(t, mid, func(b []byte) ([]byte, api.Errno) {
					return recipe.Back(b, w, n, many)
				})
			}
		}
	}
}

func TestP11_4_Most(t *testing.T) {
	for _, raw := range []int{0, 1, 2, 3, 64, 1000, 65536, api.MaxBlock - 1, api.MaxBlock} {
		if got := recipe.Most(raw); got != 3*raw+64 {
			t.Error(raw, got)
		}
	}
	for _, raw := range tooMany {
		if got := recipe.Most(raw); got != 0 {
			t.Error(raw, got)
		}
	}
}

func TestP11_4_NeverMore(t *testing.T) {
	dice := rand.New(rand.NewSource(5))
	for n := range api.Recipes {
		for _, w := range widths {
			for _, many := range []int{0, 1, 2, 3, 7, 8, 9, 100, 128, 129, 1000, 5001} {
				for _, b := range append(kinds(dice, many), worst(many, w)) {
					if mid, e := recipe.Go(b, w, n); e != api.OK || len(mid) > recipe.Most(many) {
						t.Error(n, w, many, len(mid), e)
					}
				}
			}
		}
	}
}

// worst is bytes whose words differ from the one ahead by the highest bit, and by all, in turn: no window stays.
func worst(n, width int) []byte {
	b := make([]byte, n)
	for k := range b {
		word := k / width
		switch {
		case word%4 == 1 && k%width == width-1:
			b[k] = 0x80
		case word%4 == 2:
			b[k] = 0xFF
		case word%4 == 3 && k%width == 0:
			b[k] = 0xFE
		case word%4 == 3:
			b[k] = 0xFF
		}
	}
	return b
}

func TestP11_5_WhatGoMakesBackUndoes(t *testing.T) {
	dice := rand.New(rand.NewSource(6))
	for n := range api.Recipes {
		for _, w := range widths {
			for many := range 150 {
				for _, b := range append(kinds(dice, many), worst(many, w)) {
					mid, e := recipe.Go(b, w, n)
					if e != api.OK {
						t.Fatal(n, w, b, e)
					}
					undoes(t, mid, w, n, b)
				}
			}
		}
	}
}

// All pairs of bytes, as two words, and as one.
func TestP11_5_AllPairs(t *testing.T) {
	for n := range api.Recipes {
		for _, w := range []int{1, 2} {
			for v := range 1 << 16 {
				b := []byte{byte(v), byte(v >> 8)}
				mid, _ := recipe.Go(b, w, n)
				undoes(t, mid, w, n, b)
			}
		}
	}
}

func TestP11_5_Large(t *testing.T) {
	dice := rand.New(rand.NewSource(7))
	for _, b := range kinds(dice, 1<<18+7) {
		for n := range api.Recipes {
			for _, w := range widths {
				mid, e := recipe.Go(b, w, n)
				got, f := recipe.Back(mid, w, n, len(b))
				if e != api.OK || f != api.OK || !bytes.Equal(got, b) {
					t.Error(n, w, e, f)
				}
			}
		}
	}
}

// What a call answers doesn't hang on the calls ahead of it.
func TestP11_5_NothingIsKept(t *testing.T) {
	for range 2 {
		for _, c := range pairs {
			makes(t, c.b, c.width, c.n, c.mid)
			undoes(t, c.mid, c.width, c.n, c.b)
			refused(t, c.mid, c.width, 11, len(c.b), api.ErrArg)
		}
	}
}
