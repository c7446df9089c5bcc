package bit_test

import (
	"bytes"
	"math"
	"math/rand"
	"testing"

	"winepress/api"
	"winepress/bit"
)

// laid is the bytes of bits that are written as noughts and ones, the first one first.
func laid(bits string) []byte {
	out := make([]byte, (len(bits)+7)/8)
	for k, c := range []byte(bits) {
		if c == '1' {
			out[k/8] |= 1 << (k % 8)
		}
	}
	return out
}

// holds asks a writer whether it has just these bits.
func holds(t *testing.T, w *bit.Writer, bits string) {
	t.Helper()
	if w.Len() != len(bits) {
		t.Errorf("Len: %d, not %d", w.Len(), len(bits))
	}
	if got := w.Bytes(); !bytes.Equal(got, laid(bits)) {
		t.Errorf("Bytes: %v, not %v", got, laid(bits))
	}
}

// stands asks a reader for its error and for how much is left.
func stands(t *testing.T, r *bit.Reader, e api.Errno, left int) {
	t.Helper()
	if r.Err() != e || r.Left() != left {
		t.Errorf("Err, Left: %d, %d, not %d, %d", r.Err(), r.Left(), e, left)
	}
}

func ones(n int) string {
	return string(bytes.Repeat([]byte("1"), n))
}

func TestP1_1_ZeroWriter(t *testing.T) {
	var w bit.Writer
	holds(t, &w, "")
}

func TestP1_1_Put(t *testing.T) {
	w := &bit.Writer{}
	if e := w.Put(5, 3); e != api.OK {
		t.Error(e)
	}
	holds(t, w, "101")
	w.Put(1, 1)
	holds(t, w, "1011")
	w.Put(0xff, 0)
	holds(t, w, "1011")
	w.Put(0xfe, 3) // what is above the lowest bits is not laid
	holds(t, w, "1011011")
	w.Put(6, 3) // over the end of a byte
	holds(t, w, "1011011011")
}

func TestP1_1_PutWhole(t *testing.T) {
	for ahead := range 9 {
		w := &bit.Writer{}
		w.Put(0, ahead)
		if e := w.Put(1<<63|1, 64); e != api.OK {
			t.Error(e)
		}
		zeros := string(bytes.Repeat([]byte("0"), 62))
		want := "00000000"[:ahead] + "1" + zeros + "1"
		holds(t, w, want)
		w.Put(math.MaxUint64, 64)
		holds(t, w, want+ones(64))
	}
}

func TestP1_1_Ones(t *testing.T) {
	cases := []struct {
		n, most int
		bits    string
	}{
		{2, 9, "110"}, {0, 1, "0"}, {0, 0, ""}, {1, 1, "1"}, {24, 24, ones(24)}, {23, 24, ones(23) + "0"},
		{256, 256, ones(256)}, {255, 256, ones(255) + "0"}, {0, 256, "0"},
	}
	for _, c := range cases {
		w := &bit.Writer{}
		w.Put(0, 2)
		if e := w.Ones(c.n, c.most); e != api.OK {
			t.Error(c, e)
		}
		holds(t, w, "00"+c.bits)
	}
}

func TestP1_1_Wrong(t *testing.T) {
	w := &bit.Writer{}
	w.Put(1, 2)
	for _, n := range []int{-1, 65, math.MinInt, math.MaxInt} {
		if e := w.Put(3, n); e != api.ErrArg {
			t.Error(n, e)
		}
	}
	for _, c := range [][2]int{
		{-1, 9}, {10, 9}, {1, 0}, {0, -1}, {-1, -1}, {0, 257}, {257, 257}, {256, 257}, {257, 256},
		{math.MinInt, math.MaxInt}, {math.MaxInt, math.MaxInt}, {math.MinInt, math.MinInt},
	} {
		if e := w.Ones(c[0], c[1]); e != api.ErrArg {
			t.Error(c, e)
		}
	}
	holds(t, w, "10") // nothing changes with an error
	w.Put(1, 1)
	holds(t, w, "101")
}

func TestP1_1_Nil(t *testing.T) {
	var w *bit.Writer
	if w.Put(1, 1) != api.ErrNil || w.Put(1, 65) != api.ErrNil || w.Ones(1, 1) != api.ErrNil || w.Ones(2, 1) != api.ErrNil {
		t.Error("not ErrNil")
	}
	if w.Len() != 0 || len(w.Bytes()) != 0 {
		t.Error(w.Len(), w.Bytes())
	}
}

func TestP1_1_BytesAreNew(t *testing.T) {
	w := &bit.Writer{}
	w.Put(0x0101, 12)
	one, two := w.Bytes(), w.Bytes()
	one[0], one[1] = 9, 9
	_ = append(one[:1], 7)
	if !bytes.Equal(two, []byte{1, 1}) {
		t.Error(two)
	}
	w.Put(1, 1)
	holds(t, w, "1000000010001")
	if !bytes.Equal(two, []byte{1, 1}) { // what was handed out stays, too
		t.Error(two)
	}
}

func TestP1_2_ReadAsItIsNow(t *testing.T) {
	b := []byte{13, 7}
	r := bit.Read(b)
	b[0] = 0
	stands(t, r, api.OK, 16)
	if v := r.Get(16); v != 0x070d {
		t.Errorf("%x", v)
	}
	if b[0] != 0 || b[1] != 7 {
		t.Error(b)
	}
}

func TestP1_2_Get(t *testing.T) {
	r := bit.Read([]byte{13, 0x80, 0xff})
	for _, c := range []struct {
		n    int
		v    uint64
		left int
	}{{3, 5, 21}, {0, 0, 21}, {1, 1, 20}, {12, 0x800, 8}, {7, 127, 1}, {1, 1, 0}, {0, 0, 0}} {
		if v := r.Get(c.n); v != c.v {
			t.Error(c, v)
		}
		stands(t, r, api.OK, c.left)
	}
}

func TestP1_2_GetWhole(t *testing.T) {
	r := bit.Read([]byte{0x10, 0, 0, 0, 0, 0, 0, 0, 0xf8, 0x0f})
	r.Get(4)
	if v := r.Get(64); v != 1<<63|1 {
		t.Errorf("%x", v)
	}
	if v := r.Get(12); v != 0xff {
		t.Errorf("%x", v)
	}
	stands(t, r, api.OK, 0)
}

func TestP1_2_Ones(t *testing.T) {
	for _, c := range []struct {
		bits    string
		most, n int
		taken   int
	}{
		{"11011111", 9, 2, 3}, {"11011111", 2, 2, 2}, {"11011111", 1, 1, 1}, {"11011111", 0, 0, 0},
		{"01111111", 9, 0, 1}, {"01111111", 0, 0, 0}, {"11111110", 8, 7, 8}, {"11111111", 8, 8, 8},
		{ones(256), 256, 256, 256}, {ones(255) + "0", 256, 255, 256}, {ones(15) + "0", 256, 15, 16}, {"", 0, 0, 0},
	} {
		r := bit.Read(laid(c.bits))
		if n := r.Ones(c.most); n != c.n {
			t.Error(c, n)
		}
		stands(t, r, api.OK, len(c.bits)-c.taken)
	}
}

func TestP1_2_OnesBehindOthers(t *testing.T) {
	r := bit.Read(laid("0001110111111100"))
	got := []int{int(r.Get(3)), r.Ones(24), r.Ones(5), r.Ones(24), r.Ones(24)}
	want := []int{0, 3, 5, 2, 0}
	for k, n := range want {
		if got[k] != n {
			t.Error(got, want)
		}
	}
	stands(t, r, api.OK, 0)
}

func TestP1_2_Wrong(t *testing.T) {
	for _, n := range []int{-1, 65, math.MinInt, math.MaxInt} {
		r := bit.Read(make([]byte, 20))
		if v := r.Get(n); v != 0 {
			t.Error(n, v)
		}
		stands(t, r, api.ErrArg, 0)
	}
	for _, most := range []int{-1, 257, math.MinInt, math.MaxInt} {
		r := bit.Read(laid(ones(320)))
		if n := r.Ones(most); n != 0 {
			t.Error(most, n)
		}
		stands(t, r, api.ErrArg, 0)
	}
	r := bit.Read(nil) // of both errors the one that is named first
	r.Get(65)
	stands(t, r, api.ErrArg, 0)
	r = bit.Read(nil)
	r.Ones(257)
	stands(t, r, api.ErrArg, 0)
}

func TestP1_2_TooEarly(t *testing.T) {
	takes := map[string]func(*bit.Reader) int{
		"Get 1 of 0":     func(r *bit.Reader) int { r.Get(8); return int(r.Get(1)) },
		"Get 9 of 8":     func(r *bit.Reader) int { return int(r.Get(9)) },
		"Get 64 of 8":    func(r *bit.Reader) int { return int(r.Get(64)) },
		"Ones 1 of 0":    func(r *bit.Reader) int { r.Get(8); return r.Ones(1) },
		"Ones 9 of 8":    func(r *bit.Reader) int { return r.Ones(9) },
		"Ones 256 of 8":  func(r *bit.Reader) int { return r.Ones(256) },
		"Ones 2 of last": func(r *bit.Reader) int { r.Get(7); return r.Ones(2) },
	}
	for name, take := range takes {
		r := bit.Read([]byte{255})
		if n := take(r); n != 0 {
			t.Error(name, n)
		}
		stands(t, r, api.ErrTruncated, 0)
	}
}

func TestP1_2_FirstErrorStays(t *testing.T) {
	for _, c := range []struct {
		fail func(*bit.Reader)
		e    api.Errno
	}{
		{func(r *bit.Reader) { r.Get(65) }, api.ErrArg},
		{func(r *bit.Reader) { r.Ones(257) }, api.ErrArg},
		{func(r *bit.Reader) { r.Get(17) }, api.ErrTruncated},
		{func(r *bit.Reader) { r.Ones(17) }, api.ErrTruncated},
	} {
		r := bit.Read([]byte{255, 255})
		c.fail(r)
		if r.Get(1) != 0 || r.Get(0) != 0 || r.Ones(1) != 0 || r.Ones(0) != 0 {
			t.Error("something is taken behind an error")
		}
		if r.Get(-1) != 0 || r.Ones(-1) != 0 || r.Get(64) != 0 || r.Ones(256) != 0 {
			t.Error("something is taken behind an error")
		}
		stands(t, r, c.e, 0)
		if r.Done() != c.e {
			t.Error(r.Done(), c.e)
		}
	}
}

func TestP1_2_Nil(t *testing.T) {
	var r *bit.Reader
	if r.Get(1) != 0 || r.Get(-1) != 0 || r.Ones(1) != 0 || r.Ones(-1) != 0 {
		t.Error("something is taken of none")
	}
}

func TestP1_3_Done(t *testing.T) {
	for _, c := range []struct {
		bits  string
		taken int
		e     api.Errno
	}{
		{"", 0, api.OK},
		{"00000000", 0, api.ErrMore},
		{"00000001", 0, api.ErrMore},
		{"00000000", 1, api.OK},
		{"10000000", 1, api.OK},
		{"01000000", 1, api.ErrPayload},
		{"00000001", 1, api.ErrPayload},
		{"00000001", 7, api.ErrPayload},
		{"11111110", 7, api.OK},
		{"11111111", 8, api.OK},
		{"1111111100000000", 8, api.ErrMore},
		{"1111111110000000", 8, api.ErrMore}, // of both errors the one that is named first
		{"1111111110000000", 9, api.OK},
		{"1111111100000001", 9, api.ErrPayload},
		{"0000000000000000", 1, api.ErrMore},
	} {
		r := bit.Read(laid(c.bits))
		r.Get(c.taken)
		for range 2 {
			if e := r.Done(); e != c.e {
				t.Error(c, e)
			}
		}
		stands(t, r, api.OK, len(c.bits)-c.taken) // Done takes nothing, and is no error of the reader
	}
}

func TestP1_3_Left(t *testing.T) {
	r := bit.Read(make([]byte, 3))
	for left := 24; left > 0; left-- {
		stands(t, r, api.OK, left)
		r.Get(1)
	}
	stands(t, r, api.OK, 0)
	r.Get(1)
	stands(t, r, api.ErrTruncated, 0)
	if e := r.Done(); e != api.ErrTruncated {
		t.Error(e)
	}
}

func TestP1_3_Nil(t *testing.T) {
	var r *bit.Reader
	stands(t, r, api.ErrNil, 0)
	if e := r.Done(); e != api.ErrNil {
		t.Error(e)
	}
}

// piece is a number of n bits, or, if most is not below 0, n ones.
type piece struct {
	v       uint64
	n, most int
}

func (p piece) lay(w *bit.Writer) (api.Errno, int) {
	if p.most < 0 {
		return w.Put(p.v, p.n), p.n
	}
	return w.Ones(p.n, p.most), min(p.n+1, p.most)
}

func (p piece) backs(r *bit.Reader) bool {
	if p.most < 0 {
		return r.Get(p.n) == p.v&(1<<p.n-1)
	}
	return r.Ones(p.most) == p.n
}

func pieces(dice *rand.Rand) []piece {
	out := make([]piece, dice.Intn(60))
	for k := range out {
		out[k] = piece{dice.Uint64(), dice.Intn(65), -1}
		if dice.Intn(3) == 0 {
			most := dice.Intn(257)
			out[k] = piece{0, dice.Intn(most + 1), most}
		}
	}
	return out
}

func TestP1_4_WhatWasPutIsGot(t *testing.T) {
	dice := rand.New(rand.NewSource(1))
	for range 2000 {
		w, many, all := &bit.Writer{}, 0, pieces(dice)
		for _, p := range all {
			e, n := p.lay(w)
			if many += n; e != api.OK || w.Len() != many || len(w.Bytes()) != (many+7)/8 {
				t.Fatal(p, e, w.Len(), many)
			}
		}
		r := bit.Read(w.Bytes())
		for _, p := range all {
			if !p.backs(r) {
				t.Fatal(p, r.Err())
			}
		}
		if r.Done() != api.OK || r.Left() != len(w.Bytes())*8-many {
			t.Fatal(r.Done(), r.Left())
		}
	}
}

func TestP1_4_BitByBit(t *testing.T) {
	dice := rand.New(rand.NewSource(2))
	for range 300 {
		b := make([]byte, dice.Intn(40))
		dice.Read(b)
		r, w := bit.Read(b), &bit.Writer{}
		for k := range len(b) * 8 {
			v := r.Get(1)
			if v != uint64(b[k/8]>>(k%8)&1) {
				t.Fatal(k, v)
			}
			w.Put(v, 1)
		}
		if !bytes.Equal(w.Bytes(), b) || r.Done() != api.OK {
			t.Fatal(w.Bytes(), b)
		}
	}
}

func TestP1_ReaderOfNoCallEnds(t *testing.T) {
	r := &bit.Reader{}
	r.Get(1)
	r.Ones(1)
	r.Left()
	r.Done()
}
