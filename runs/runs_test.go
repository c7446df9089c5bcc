package runs_test

import (
	"bytes"
	"math"
	"math/rand"
	"slices"
	"testing"

	"winepress/api"
	"winepress/runs"
)

// same is n bytes alike.
func same(c byte, n int) []byte {
	return bytes.Repeat([]byte{c}, n)
}

// rising is n bytes, none of which is as the one ahead.
func rising(n int) []byte {
	b := make([]byte, n)
	for k := range b {
		b[k] = byte(k)
	}
	return b
}

func joined(parts ...[]byte) []byte {
	return bytes.Join(parts, nil)
}

// begins tells whether three or more alike begin at a place.
func begins(b []byte, at int) bool {
	return at+3 <= len(b) && b[at] == b[at+1] && b[at] == b[at+2]
}

// pieces is what the document says of Pack, place by place.
func pieces(b []byte) []byte {
	var out []byte
	for at := 0; at < len(b); {
		end := at + 1
		if begins(b, at) {
			for end < len(b) && end-at < 130 && b[end] == b[at] {
				end++
			}
			out = append(out, byte(end-at+125), b[at])
		} else {
			for end < len(b) && end-at < 128 && !begins(b, end) {
				end++
			}
			out = append(out, byte(end-at-1))
			out = append(out, b[at:end]...)
		}
		at = end
	}
	return out
}

// tells is what pieces tell, and whether they are whole.
func tells(b []byte) ([]byte, bool) {
	var out []byte
	for at := 0; at < len(b); {
		c := int(b[at])
		size := 1
		times := c - 125
		if c < 128 {
			size, times = c+1, 1
		}
		at++
		if at+size > len(b) {
			return nil, false
		}
		for range times {
			out = append(out, b[at:at+size]...)
		}
		at += size
	}
	return out, true
}

// thrown is bytes of which many follow others alike.
func thrown(dice *rand.Rand, most int) []byte {
	n := dice.Intn(most + 1)
	var b []byte
	for len(b) < n {
		switch dice.Intn(3) {
		case 0:
			b = append(b, same(byte(dice.Intn(3)), 1+dice.Intn(5))...)
		case 1:
			b = append(b, same(byte(dice.Intn(256)), dice.Intn(300))...)
		default:
			part := make([]byte, dice.Intn(300))
			dice.Read(part)
			b = append(b, part...)
		}
	}
	return b[:n]
}

// pair is bytes, and what they are when they are packed.
type pair struct {
	b, was []byte
}

var pairs = []pair{
	{[]byte{7, 7, 7, 7, 1}, []byte{129, 7, 0, 1}},
	{nil, nil},
	{[]byte{9}, []byte{0, 9}},
	{[]byte{9, 9}, []byte{1, 9, 9}},
	{[]byte{9, 9, 9}, []byte{128, 9}},
	{[]byte{9, 9, 8, 8}, []byte{3, 9, 9, 8, 8}},
	{[]byte{1, 9, 9, 9}, []byte{0, 1, 128, 9}},
	{[]byte{1, 2, 9, 9, 9, 3, 3}, []byte{1, 1, 2, 128, 9, 1, 3, 3}},
	{[]byte{9, 9, 9, 8, 8, 8, 8}, []byte{128, 9, 129, 8}},
	{[]byte{8, 8, 9, 9, 9}, []byte{1, 8, 8, 128, 9}},
	{same(5, 129), []byte{254, 5}},
	{same(5, 130), []byte{255, 5}},
	{same(5, 131), []byte{255, 5, 0, 5}},
	{same(5, 132), []byte{255, 5, 1, 5, 5}},
	{same(5, 133), []byte{255, 5, 128, 5}},
	{same(5, 260), []byte{255, 5, 255, 5}},
	{joined(same(5, 132), []byte{6, 6, 6}), []byte{255, 5, 1, 5, 5, 128, 6}},
	{rising(127), joined([]byte{126}, rising(127))},
	{rising(128), joined([]byte{127}, rising(128))},
	{rising(129), joined([]byte{127}, rising(128), []byte{0, 128})},
	{rising(256), joined([]byte{127}, rising(256)[:128], []byte{127}, rising(256)[128:])},
	{joined(rising(127), same(200, 3)), joined([]byte{126}, rising(127), []byte{128, 200})},
	{joined(rising(128), same(200, 3)), joined([]byte{127}, rising(128), []byte{128, 200})},
	{joined(rising(126), same(200, 2)), joined([]byte{127}, rising(126), same(200, 2))},
	{joined(rising(127), same(200, 2)), joined([]byte{127}, rising(127), []byte{200, 0, 200})},
}

func refused(t *testing.T, b []byte, n int, want api.Errno) {
	t.Helper()
	if got, e := runs.Unpack(b, n); e != want || len(got) != 0 {
		t.Errorf("Unpack of %v, %d bytes: %v, %d, not %d", b, n, got, e, want)
	}
}

func unpacks(t *testing.T, b, want []byte) {
	t.Helper()
	if got, e := runs.Unpack(b, len(want)); e != api.OK || !bytes.Equal(got, want) {
		t.Errorf("Unpack of %v: %v, %d, not %v", b, got, e, want)
	}
}

func TestP10_1_Pack(t *testing.T) {
	for _, c := range pairs {
		if got := runs.Pack(c.b); !bytes.Equal(got, c.was) {
			t.Errorf("Pack of %v: %v, not %v", c.b, got, c.was)
		}
	}
}

// All bytes of three kinds, up to nine of them.
func TestP10_1_AllThatAreShort(t *testing.T) {
	many := 1
	for n := range 10 {
		for which := range many {
			b := make([]byte, n)
			for k := range b {
				b[k] = byte(which % 3)
				which /= 3
			}
			if got := runs.Pack(b); !bytes.Equal(got, pieces(b)) {
				t.Fatal(b, got)
			}
		}
		many *= 3
	}
}

// Some bytes that are apart, some alike, and some apart, about as many as a piece has at most.
func TestP10_1_AboutTheMost(t *testing.T) {
	for n := 120; n < 140; n++ {
		for _, more := range []int{0, 1, 2, 3, 4, 127, 128, 129, 130, 131, 132, 133, 134, 259, 260, 261, 262, 263} {
			for _, behind := range []int{0, 1, 2, 128, 129} {
				b := joined(rising(n), same(250, more), rising(behind))
				if got := runs.Pack(b); !bytes.Equal(got, pieces(b)) {
					t.Fatal(n, more, behind, got)
				}
			}
		}
	}
}

func TestP10_1_Whatever(t *testing.T) {
	dice := rand.New(rand.NewSource(1))
	for range 3000 {
		b := thrown(dice, 1500)
		if got := runs.Pack(b); !bytes.Equal(got, pieces(b)) {
			t.Fatal(b, got)
		}
	}
}

func TestP10_1_NewMemory(t *testing.T) {
	for _, c := range pairs {
		room := joined(c.b, same(77, 5))
		then := slices.Clone(room)
		got := runs.Pack(room[:len(c.b)])
		if !bytes.Equal(room, then) {
			t.Error("what is handed in is changed", room)
		}
		clear(room)
		if !bytes.Equal(got, c.was) {
			t.Error("the answer is in the caller's memory", got)
		}
		copy(room, then)
		clear(got)
		_ = append(got, 99)
		if !bytes.Equal(room, then) {
			t.Error("the caller's memory is in the answer", room)
		}
	}
}

func TestP10_2_Unpack(t *testing.T) {
	for _, c := range pairs {
		unpacks(t, c.was, c.b)
	}
}

// Pieces needn't be those that Pack has.
func TestP10_2_OtherPieces(t *testing.T) {
	unpacks(t, []byte{0, 7, 0, 7, 0, 7}, []byte{7, 7, 7})
	unpacks(t, []byte{3, 7, 7, 7, 7}, []byte{7, 7, 7, 7})
	unpacks(t, []byte{128, 7, 128, 7}, []byte{7, 7, 7, 7, 7, 7})
	unpacks(t, []byte{1, 1, 7, 129, 7, 0, 7, 255, 7}, joined([]byte{1}, same(7, 136)))
	unpacks(t, []byte{0, 1, 0, 2}, []byte{1, 2})
}

func TestP10_2_WrongArg(t *testing.T) {
	for _, n := range []int{-1, -2, 1<<28 + 1, 1 << 29, 1 << 32, math.MaxInt, math.MinInt} {
		for _, b := range [][]byte{nil, {0, 1}, {0}, {255}} { // ErrArg is named first
			refused(t, b, n, api.ErrArg)
		}
	}
}

func TestP10_2_MostArg(t *testing.T) {
	for _, b := range [][]byte{nil, {0, 1}, {0}, {255, 1}} {
		refused(t, b, 1<<28, api.ErrPayload)
	}
}

func TestP10_2_NotWhole(t *testing.T) {
	for _, c := range pairs {
		for n := range c.was {
			refused(t, c.was[:n], len(c.b), api.ErrPayload)
		}
	}
	for c := range 256 {
		for n := range 2 {
			refused(t, []byte{byte(c)}, n, api.ErrPayload)
		}
	}
	// The first piece alone tells enough.
	refused(t, []byte{128, 7, 0}, 3, api.ErrPayload)
	refused(t, []byte{128, 7, 128}, 3, api.ErrPayload)
	refused(t, []byte{128, 7, 2, 1, 2}, 6, api.ErrPayload)
	refused(t, []byte{128, 7, 2, 1, 2}, 5, api.ErrPayload)
}

func TestP10_2_AnotherNumber(t *testing.T) {
	for _, c := range pairs {
		for _, n := range []int{0, 1, len(c.b) - 1, len(c.b) + 1, len(c.b) + 3, 2 * len(c.b), 1 << 28} {
			if n >= 0 && n != len(c.b) {
				refused(t, c.was, n, api.ErrPayload)
			}
		}
	}
	refused(t, []byte{0, 1}, 0, api.ErrPayload)
	refused(t, []byte{255, 1}, 129, api.ErrPayload)
	refused(t, []byte{255, 1}, 131, api.ErrPayload)
}

func TestP10_2_Whatever(t *testing.T) {
	dice := rand.New(rand.NewSource(2))
	right := 0
	for range 200000 {
		b := make([]byte, dice.Intn(9))
		for k := range b {
			b[k] = byte(dice.Intn(4))
			if dice.Intn(4) == 0 {
				b[k] = byte(126 + dice.Intn(5))
			}
		}
		want, whole := tells(b)
		n := dice.Intn(12)
		if whole && dice.Intn(2) == 0 {
			n = len(want)
		}
		got, e := runs.Unpack(b, n)
		if whole && len(want) == n {
			right++
			if e != api.OK || !bytes.Equal(got, want) {
				t.Fatal(b, n, got, e)
			}
		} else if e != api.ErrPayload || len(got) != 0 {
			t.Fatal(b, n, got, e)
		}
	}
	if right < 1000 {
		t.Error("hardly any were pieces", right)
	}
}

func TestP10_2_NewMemory(t *testing.T) {
	room := []byte{1, 5, 6, 129, 7, 0, 8, 77, 77, 77, 77}
	then := slices.Clone(room)
	want := []byte{5, 6, 7, 7, 7, 7, 8}
	got, _ := runs.Unpack(room[:7], 7)
	if !bytes.Equal(room, then) {
		t.Error("what is handed in is changed", room)
	}
	clear(room)
	if !bytes.Equal(got, want) {
		t.Error("the answer is in the caller's memory", got)
	}
	copy(room, then)
	clear(got)
	_ = append(got, 99)
	if !bytes.Equal(room, then) {
		t.Error("the caller's memory is in the answer", room)
	}
}

func TestP10_3_Most(t *testing.T) {
	for _, c := range [][2]int{
		{0, 0}, {1, 2}, {2, 3}, {127, 128}, {128, 129}, {129, 131}, {256, 258}, {257, 260},
		{1 << 40, 1<<40 + 1<<33}, {1<<40 - 1, 1<<40 - 1 + 1<<33}, {1<<40 - 128, 1<<40 - 128 + 1<<33 - 1},
		{1<<40 + 1, 0}, {math.MaxInt, 0}, {-1, 0}, {-128, 0}, {-1000, 0}, {math.MinInt, 0},
	} {
		if got := runs.Most(c[0]); got != c[1] {
			t.Error(c, got)
		}
	}
}

// Bytes none of which is as the one ahead become as many as there may be; no others become more.
func TestP10_3_NoneIsMore(t *testing.T) {
	for n := range 700 {
		if got := len(runs.Pack(rising(n))); got != runs.Most(n) {
			t.Error(n, got)
		}
	}
	dice := rand.New(rand.NewSource(3))
	for range 3000 {
		b := thrown(dice, 1500)
		if got := len(runs.Pack(b)); got > runs.Most(len(b)) {
			t.Error(len(b), got)
		}
	}
}

func TestP10_4_WhatIsPackedComesBack(t *testing.T) {
	dice := rand.New(rand.NewSource(4))
	for range 3000 {
		b := thrown(dice, 1500)
		unpacks(t, runs.Pack(b), b)
	}
}

func TestP10_4_Large(t *testing.T) {
	b := make([]byte, 1<<20)
	rand.New(rand.NewSource(5)).Read(b)
	for _, c := range [][]byte{b, same(9, 1<<20+1), joined(b, same(9, 1<<20), b)} {
		got, e := runs.Unpack(runs.Pack(c), len(c))
		if e != api.OK || !bytes.Equal(got, c) {
			t.Error(len(c), e)
		}
	}
}

// What a call answers doesn't hang on the calls ahead of it.
func TestP10_4_NothingIsKept(t *testing.T) {
	for range 2 {
		for _, c := range pairs {
			unpacks(t, runs.Pack(c.b), c.b)
			refused(t, []byte{1, 2}, 2, api.ErrPayload)
		}
	}
}
