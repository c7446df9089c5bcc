package recipe_test

import (
	"winepress/api"
	"winepress/delta"
	"winepress/flip"
	"winepress/fold"
	"winepress/gorilla"
	"winepress/plane"
	"winepress/runs"
	"winepress/word"
)

// made is what the document says of Go, each recipe written out by the calls of the layers below.
func made(b []byte, width, n int) []byte {
	l, rest := word.Take(b, width)
	laid := func(l []uint64) []byte { return word.Lay(l, width, rest) }
	switch n {
	case 1:
		return laid(fold.Fold(delta.Diff(l, width), width))
	case 2:
		return laid(fold.Fold(delta.Second(l, width), width))
	case 3:
		return laid(flip.Flip(l, width))
	case 4:
		return plane.Split(b, width)
	case 5:
		return plane.Split(laid(fold.Fold(delta.Diff(l, width), width)), width)
	case 6:
		return plane.Split(laid(fold.Fold(delta.Second(l, width), width)), width)
	case 7:
		return plane.Split(laid(flip.Flip(l, width)), width)
	case 8:
		return append(gorilla.Pack(l, width), rest...)
	case 9:
		return runs.Pack(b)
	case 10:
		return runs.Pack(plane.Split(laid(fold.Fold(delta.Diff(l, width), width)), width))
	}
	return b
}

// unmade is what the document says of Back, likewise; false, if it is to be refused.
func unmade(mid []byte, width, n, raw int) ([]byte, bool) {
	switch n {
	case 8:
		end := len(mid) - raw%width
		if end < 0 {
			return nil, false
		}
		l, e := gorilla.Unpack(mid[:end], width, raw/width)
		return word.Lay(l, width, mid[end:]), e == api.OK
	case 9:
		b, e := runs.Unpack(mid, raw)
		return b, e == api.OK
	case 10:
		b, e := runs.Unpack(mid, raw)
		if e != api.OK {
			return nil, false
		}
		return unmade(b, width, 5, raw)
	}
	return undone(mid, width, n), len(mid) == raw
}

// undone is what the recipes undo that make as many bytes as there were.
func undone(mid []byte, width, n int) []byte {
	if n >= 4 {
		mid = plane.Join(mid, width)
	}
	l, rest := word.Take(mid, width)
	switch n {
	case 1, 5:
		l = delta.Sum(fold.Unfold(l, width), width)
	case 2, 6:
		l = delta.Twice(fold.Unfold(l, width), width)
	case 3, 7:
		l = flip.Back(l, width)
	}
	return word.Lay(l, width, rest)
}
