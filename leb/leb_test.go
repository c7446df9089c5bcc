package leb_test

import (
	"bytes"
	"math"
	"math/rand"
	"testing"

	"winepress/api"
	"winepress/leb"
)

// row is a byte many times, and others behind.
func row(many int, c byte, behind ...byte) []byte {
	return append(bytes.Repeat([]byte{c}, many), behind...)
}

var numbers = []struct {
	n uint64
	b []byte
}{
	{0, []byte{0}},
	{1, []byte{1}},
	{127, []byte{127}},
	{128, []byte{128, 1}},
	{129, []byte{129, 1}},
	{255, []byte{255, 1}},
	{300, []byte{172, 2}},
	{1<<14 - 1, []byte{255, 127}},
	{1 << 14, []byte{128, 128, 1}},
	{1 << 32, []byte{128, 128, 128, 128, 16}},
	{1<<63 - 1, row(8, 255, 127)},
	{1 << 63, row(9, 128, 1)},
	{math.MaxUint64, row(9, 255, 1)},
}

func TestP2_1_Put(t *testing.T) {
	for _, c := range numbers {
		if got := leb.Put(nil, c.n); !bytes.Equal(got, c.b) {
			t.Error(c.n, got, c.b)
		}
		if got := leb.Put([]byte{7, 255}, c.n); !bytes.Equal(got, append([]byte{7, 255}, c.b...)) {
			t.Error(c.n, got)
		}
		if got := leb.Size(c.n); got != len(c.b) {
			t.Error(c.n, got)
		}
	}
}

func TestP2_1_Size(t *testing.T) {
	for size := 1; size <= 9; size++ {
		n := uint64(1) << (7 * size)
		if leb.Size(n-1) != size || leb.Size(n) != size+1 {
			t.Error(n, leb.Size(n-1), leb.Size(n))
		}
		if len(leb.Put(nil, n-1)) != size || len(leb.Put(nil, n)) != size+1 {
			t.Error(n, leb.Put(nil, n-1), leb.Put(nil, n))
		}
	}
}

// keepsRoom asks whether put leaves what is handed in as it is, and answers in new memory.
func keepsRoom(t *testing.T, put func([]byte) []byte) {
	t.Helper()
	room := []byte{1, 2, 3, 4, 5, 6, 7, 8, 9, 10, 11, 12}
	whole := bytes.Clone(room)
	got := put(room[:2])
	if !bytes.Equal(room, whole) {
		t.Error("the room behind is changed", room)
	}
	want := bytes.Clone(got)
	room[0], room[1], room[2] = 99, 99, 99
	if !bytes.Equal(got, want) {
		t.Error("the answer is in the caller's memory", got)
	}
	got[0] = 77
	if room[0] != 99 {
		t.Error("the caller's memory is in the answer")
	}
}

func TestP2_1_NewMemory(t *testing.T) {
	for _, c := range numbers {
		keepsRoom(t, func(b []byte) []byte { return leb.Put(b, c.n) })
	}
}

func TestP2_2_Get(t *testing.T) {
	for _, c := range numbers {
		for _, behind := range [][]byte{nil, {0}, {255}, {128, 0}, row(12, 255)} {
			b := append(bytes.Clone(c.b), behind...)
			n, size, e := leb.Get(b)
			if n != c.n || size != len(c.b) || e != api.OK {
				t.Error(b, n, size, e)
			}
		}
	}
}

// refused is bytes with which no number begins, and what is wrong.
var refused = []struct {
	b []byte
	e api.Errno
}{
	{nil, api.ErrTruncated},
	{[]byte{}, api.ErrTruncated},
	{[]byte{128}, api.ErrTruncated},
	{[]byte{255, 255}, api.ErrTruncated},
	{row(9, 128), api.ErrTruncated},
	{row(9, 255), api.ErrTruncated},
	{[]byte{128, 0}, api.ErrForm},
	{[]byte{128, 0, 1}, api.ErrForm},
	{[]byte{255, 0}, api.ErrForm},
	{[]byte{129, 128, 0}, api.ErrForm},
	{row(8, 255, 0), api.ErrForm},
	{row(9, 255, 0), api.ErrForm},
	{row(9, 128, 2), api.ErrForm},
	{row(9, 255, 3), api.ErrForm},
	{row(9, 255, 127), api.ErrForm},
	{row(9, 128, 128), api.ErrForm},
	{row(9, 128, 129), api.ErrForm},
	{row(10, 255), api.ErrForm},
	{row(10, 128, 1), api.ErrForm},
	{row(1000, 255), api.ErrForm},
}

func TestP2_2_Refused(t *testing.T) {
	for _, c := range refused {
		n, size, e := leb.Get(c.b)
		if n != 0 || size != 0 || e != c.e {
			t.Error(c.b, n, size, e)
		}
	}
}

func TestP2_2_KeepsBytes(t *testing.T) {
	b := []byte{172, 2, 9}
	leb.Get(b)
	leb.GetInt(b)
	if !bytes.Equal(b, []byte{172, 2, 9}) {
		t.Error(b)
	}
}

var signs = []struct {
	n int
	u uint64
}{
	{0, 0}, {-1, 1}, {1, 2}, {-2, 3}, {2, 4}, {-3, 5}, {63, 126}, {-64, 127}, {64, 128},
	{math.MaxInt32, 1<<32 - 2}, {math.MinInt32, 1<<32 - 1},
	{math.MaxInt, math.MaxUint64 - 1}, {math.MinInt, math.MaxUint64},
	{math.MaxInt - 1, math.MaxUint64 - 3}, {math.MinInt + 1, math.MaxUint64 - 2},
}

func TestP2_3_Fold(t *testing.T) {
	for _, c := range signs {
		if u := leb.Fold(c.n); u != c.u {
			t.Error(c, u)
		}
		if n := leb.Unfold(c.u); n != c.n {
			t.Error(c, n)
		}
	}
}

func TestP2_3_Ints(t *testing.T) {
	for _, c := range signs {
		b := leb.PutInt([]byte{255, 3}, c.n)
		if !bytes.Equal(b, leb.Put([]byte{255, 3}, c.u)) {
			t.Error(c, b)
		}
		n, size, e := leb.GetInt(append(b[2:], 128, 0))
		if n != c.n || size != leb.Size(c.u) || e != api.OK {
			t.Error(c, n, size, e)
		}
		keepsRoom(t, func(b []byte) []byte { return leb.PutInt(b, c.n) })
	}
}

func TestP2_3_RefusedInts(t *testing.T) {
	for _, c := range refused {
		n, size, e := leb.GetInt(c.b)
		if n != 0 || size != 0 || e != c.e {
			t.Error(c.b, n, size, e)
		}
	}
}

// back asks whether a number that is put is got, and whether each beginning of it ends too early.
func back(t *testing.T, n uint64, behind []byte) {
	t.Helper()
	b := leb.Put(nil, n)
	got, size, e := leb.Get(append(bytes.Clone(b), behind...))
	if got != n || size != len(b) || size != leb.Size(n) || e != api.OK {
		t.Fatal(n, got, size, e)
	}
	for k := range b {
		if got, size, e := leb.Get(b[:k]); got != 0 || size != 0 || e != api.ErrTruncated {
			t.Fatal(n, k, got, size, e)
		}
	}
	i, size, e := leb.GetInt(append(leb.PutInt(nil, int(n)), behind...))
	if i != int(n) || size != leb.Size(leb.Fold(int(n))) || e != api.OK || leb.Unfold(leb.Fold(int(n))) != int(n) || leb.Fold(leb.Unfold(n)) != n {
		t.Fatal(n, i, size, e)
	}
}

func TestP2_4_WhatWasPutIsGot(t *testing.T) {
	for _, c := range numbers {
		back(t, c.n, []byte{0, 128})
	}
	dice := rand.New(rand.NewSource(3))
	for range 20000 {
		behind := make([]byte, dice.Intn(4))
		dice.Read(behind)
		back(t, dice.Uint64()>>dice.Intn(64), behind)
	}
}

func TestP2_4_WhatIsGotIsLaidAsItWas(t *testing.T) {
	dice := rand.New(rand.NewSource(4))
	edges := []byte{0, 1, 2, 127, 128, 129, 255}
	for range 50000 {
		b := make([]byte, dice.Intn(13))
		for k := range b {
			b[k] = edges[dice.Intn(len(edges))]
			if dice.Intn(3) > 0 {
				b[k] |= 128
			}
		}
		n, size, e := leb.Get(b)
		if e == api.OK && !bytes.Equal(leb.Put(nil, n), b[:size]) {
			t.Fatal(b, n, size)
		}
		i, size, e := leb.GetInt(b)
		if e == api.OK && !bytes.Equal(leb.PutInt(nil, i), b[:size]) {
			t.Fatal(b, i, size)
		}
	}
}
