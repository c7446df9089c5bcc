package rc_test

import (
	"math"
	"math/rand"
	"slices"
	"testing"

	"winepress/api"
	"winepress/rc"
)

// part is one of a whole.
type part struct {
	low, size, total int
}

// laid is parts, and the bytes that the document says they have.
type laid struct {
	parts []part
	bytes []byte
}

var known = []laid{
	{nil, []byte{0, 0, 0, 0}},
	{[]part{{1, 1, 2}}, []byte{127, 255, 255, 255}},
	{[]part{{0, 1, 2}}, []byte{0, 0, 0, 0}},
	{[]part{{0, 1, 1}}, []byte{0, 0, 0, 0}},
	{[]part{{0, 2, 2}}, []byte{0, 0, 0, 0}},
	{[]part{{0, 1, 65536}}, []byte{0, 0, 0, 0, 0, 0}},
	{[]part{{65535, 1, 65536}}, []byte{255, 254, 0, 1, 0}},
	{[]part{{0, 65536, 65536}}, []byte{0, 0, 0, 0}},
	{[]part{{1, 65535, 65536}}, []byte{0, 0, 255, 255}},
	{[]part{{32768, 1, 65536}}, []byte{127, 255, 128, 0, 0}},
	{slices.Repeat([]part{{1, 1, 3}}, 5), []byte{127, 121, 38, 248}},
	{slices.Repeat([]part{{2, 1, 3}}, 25), []byte{255, 255, 255, 248, 250, 172, 197, 26}},
	{slices.Repeat([]part{{255, 1, 256}}, 4), []byte{255, 255, 254, 0, 0, 1, 0}},
	{slices.Repeat([]part{{65535, 1, 65536}}, 4), []byte{255, 254, 255, 0, 255, 255, 255, 255, 1, 0, 0}},
	{slices.Repeat([]part{{0, 1, 65536}}, 3), make([]byte, 10)},
	{[]part{{1, 2, 4}, {3, 1, 4}, {0, 1, 4}}, []byte{159, 255, 255, 252}},
	{[]part{{5, 1, 10}, {7, 3, 10}}, []byte{145, 235, 133, 21}},
	{[]part{{127, 1, 255}, {32768, 1, 65536}}, []byte{127, 255, 255, 127, 0, 0}},
	{slices.Repeat([]part{{32767, 2, 65536}}, 3), []byte{127, 255, 0, 0, 255, 254, 0, 0}},
	{slices.Repeat([]part{{255, 2, 512}}, 6), []byte{127, 255, 191, 0, 255, 223, 95, 129, 0, 0}},
	{[]part{{1, 1, 2}, {0, 65535, 65536}, {32767, 1, 65535}}, []byte{191, 255, 0, 0, 0, 0}},
	{slices.Repeat([]part{{127, 2, 256}}, 3), []byte{127, 255, 250, 131, 0}},
	{slices.Repeat([]part{{21845, 1, 65535}}, 4), []byte{85, 85, 170, 170, 85, 85, 85, 85, 0, 0, 0}},
}

// wrong is parts that may not be.
var wrong = []part{
	{-1, 1, 2}, {-1, 2, 2}, {-2, 1, 65536}, {math.MinInt, 1, 2}, {math.MinInt, math.MaxInt, 2}, {-1 << 32, 1, 2},
	{0, 0, 2}, {1, 0, 2}, {2, 0, 2}, {0, -1, 2}, {2, -1, 2}, {2, math.MinInt, 2}, {0, math.MinInt, 65536}, {0, 1 << 32, 2},
	{2, 1, 2}, {1, 2, 2}, {0, 3, 2}, {3, 1, 2}, {65536, 1, 65536}, {1, 65536, 65536}, {0, 65537, 65536}, {65535, 2, 65536},
	{0, 1, 0}, {0, 0, 0}, {0, 1, -1}, {-2, 1, -1}, {0, 1, math.MinInt}, {math.MinInt, 1, math.MinInt}, {math.MinInt, math.MinInt, math.MinInt}, {-5, 1, -2},
	{0, 1, 65537}, {65536, 1, 65537}, {0, 65537, 65537}, {0, 1, 1 << 17}, {0, 1, 1 << 32}, {0, 1, 1<<32 + 2}, {0, 1, math.MaxInt},
	{math.MaxInt, 1, 2}, {1, math.MaxInt, 2}, {math.MaxInt, math.MaxInt, 2}, {math.MaxInt, math.MaxInt, math.MaxInt}, {math.MaxInt, 1, math.MaxInt},
	{1 << 32, 1, 2}, {1<<32 + 1, 1, 2}, {1, 1<<32 + 1, 2}, {math.MaxInt - 1, 2, 65536}, {2, math.MaxInt - 1, 65536},
}

// wrongTotals is of how many no whole is.
var wrongTotals = []int{0, -1, -65536, 65537, 65538, 1 << 17, 1 << 32, 1<<32 + 2, math.MaxInt, math.MinInt}

// plain is a span, and what is left of bytes, by the document's words.
type plain struct {
	l, r, c uint64
	left    []byte
	out     []byte
	short   bool
}

const whole = 1 << 32

// narrow narrows the span; of each byte that moves, what both ways do is done.
func (p *plain) narrow(q part) {
	r := p.r / uint64(q.total)
	p.l = (p.l + uint64(q.low)*r) % whole
	p.r = uint64(q.size) * r % whole
	for {
		same := p.l>>24 == (p.l+p.r)%whole>>24
		if !same && p.r >= 65536 {
			return
		}
		if !same {
			p.r = 65536 - p.l%65536
		}
		p.out = append(p.out, byte(p.l>>24))
		p.next()
		p.l, p.r = p.l*256%whole, p.r*256%whole
	}
}

func (p *plain) next() {
	if len(p.left) == 0 {
		p.short = true
		return
	}
	p.c = (p.c*256 + uint64(p.left[0])) % whole
	p.left = p.left[1:]
}

func (p *plain) find(total int) uint64 {
	return (p.c + whole - p.l) % whole / (p.r / uint64(total))
}

// begun is a span of bytes by the document's words.
func begun(b []byte) *plain {
	p := &plain{r: whole - 1, left: b}
	for range 4 {
		p.next()
	}
	return p
}

// plainly is the bytes of parts by the document's words.
func plainly(parts []part) []byte {
	p := begun(nil)
	for _, q := range parts {
		p.narrow(q)
	}
	return append(p.out, byte(p.l>>24), byte(p.l>>16), byte(p.l>>8), byte(p.l))
}

// encoded is an encoder that has laid parts.
func encoded(t *testing.T, parts []part) *rc.Encoder {
	t.Helper()
	e := rc.Begin()
	for _, q := range parts {
		if err := e.Put(q.low, q.size, q.total); err != api.OK {
			t.Errorf("Put of %v: %d", q, err)
		}
	}
	return e
}

// lays asks for just these bytes.
func lays(t *testing.T, e *rc.Encoder, want []byte) {
	t.Helper()
	if got := e.Bytes(); !slices.Equal(got, want) {
		t.Errorf("%v, not %v", got, want)
	}
}

// taken asks that each part is found, and taken.
func taken(t *testing.T, d *rc.Decoder, parts []part) {
	t.Helper()
	for i, q := range parts {
		v := d.Find(q.total)
		if v < q.low || v >= q.low+q.size || d.Err() != api.OK {
			t.Fatalf("Find of %v, the part %d: %d, %d", q, i, v, d.Err())
		}
		if err := d.Take(q.low, q.size, q.total); err != api.OK || d.Err() != api.OK {
			t.Fatalf("Take of %v, the part %d: %d, %d", q, i, err, d.Err())
		}
	}
}

// stays asks that an error stays, whatever is asked.
func stays(t *testing.T, d *rc.Decoder, want api.Errno) {
	t.Helper()
	for range 2 {
		if d.Err() != want || d.Done() != want {
			t.Errorf("Err %d, Done %d, not %d", d.Err(), d.Done(), want)
		}
		for _, total := range append([]int{1, 2, 256, 65536}, wrongTotals...) {
			if v := d.Find(total); v != 0 {
				t.Errorf("Find of %d behind an error: %d", total, v)
			}
		}
		for _, q := range append([]part{{0, 1, 1}, {0, 1, 65536}, {65535, 1, 65536}}, wrong...) {
			if err := d.Take(q.low, q.size, q.total); err != want {
				t.Errorf("Take of %v behind an error: %d, not %d", q, err, want)
			}
		}
	}
}

// thrown is parts of one kind.
func thrown(dice *rand.Rand, n int) []part {
	l := make([]part, n)
	kind := dice.Intn(6)
	for i := range l {
		total := 1 + dice.Intn(65536)
		switch kind {
		case 0:
			total = 65536 - dice.Intn(3)
		case 1:
			total = 1 + dice.Intn(4)
		}
		size := 1 + dice.Intn(total)
		if dice.Intn(3) > 0 {
			size = 1 + dice.Intn(min(total, 3))
		}
		low := dice.Intn(total - size + 1)
		switch dice.Intn(4) {
		case 0:
			low = (total - size) / 2
		case 1:
			low = (total - size) * dice.Intn(2)
		}
		if kind == 2 {
			low = (total - size) / 2
		}
		if kind == 3 {
			low = total - size
		}
		l[i] = part{low, size, total}
	}
	return l
}

func TestP17_1_Examples(t *testing.T) {
	lays(t, encoded(t, nil), []byte{0, 0, 0, 0})
	lays(t, encoded(t, []part{{1, 1, 2}}), []byte{127, 255, 255, 255})
}

func TestP17_1_Put(t *testing.T) {
	for _, k := range known {
		lays(t, encoded(t, k.parts), k.bytes)
		lays(t, encoded(t, k.parts), plainly(k.parts))
	}
}

func TestP17_1_AllPartsOfSmallWholes(t *testing.T) {
	for total := 1; total <= 12; total++ {
		for low := range total {
			for size := 1; low+size <= total; size++ {
				for n := 1; n < 20; n += 3 {
					parts := slices.Repeat([]part{{low, size, total}}, n)
					lays(t, encoded(t, parts), plainly(parts))
				}
			}
		}
	}
}

func TestP17_1_EachTotal(t *testing.T) {
	for total := 1; total <= 65536; total++ {
		parts := []part{{total - 1, 1, total}, {0, 1, total}, {total / 2, total - total/2, total}, {0, total, total}, {total / 2, 1, total}}
		lays(t, encoded(t, parts), plainly(parts))
	}
}

func TestP17_1_Thrown(t *testing.T) {
	dice := rand.New(rand.NewSource(1))
	for range 3000 {
		parts := thrown(dice, dice.Intn(60))
		lays(t, encoded(t, parts), plainly(parts))
	}
}

// A part that may not be changes nothing.
func TestP17_1_Wrong(t *testing.T) {
	for _, k := range known {
		e := rc.Begin()
		for _, q := range append([]part{{0, 1, 1}}, k.parts...) {
			e.Put(q.low, q.size, q.total)
			then := e.Bytes()
			for _, w := range wrong {
				if err := e.Put(w.low, w.size, w.total); err != api.ErrArg {
					t.Errorf("Put of %v: %d", w, err)
				}
				lays(t, e, then)
			}
		}
		lays(t, e, plainly(append([]part{{0, 1, 1}}, k.parts...)))
	}
}

// Bytes may be asked for at any time, and are nobody else's.
func TestP17_1_NewMemory(t *testing.T) {
	for _, k := range known {
		e := rc.Begin()
		for i, q := range k.parts {
			b := e.Bytes()
			_ = append(b, 99, 99)
			clear(b)
			lays(t, e, plainly(k.parts[:i]))
			e.Put(q.low, q.size, q.total)
		}
		first, second := e.Bytes(), e.Bytes()
		clear(first)
		e.Put(65535, 1, 65536)
		if !slices.Equal(second, k.bytes) {
			t.Errorf("an answer has changed: %v, not %v", second, k.bytes)
		}
	}
}

func TestP17_1_OneBesideAnother(t *testing.T) {
	a, b := rc.Begin(), rc.Begin()
	for _, q := range known[9].parts {
		a.Put(q.low, q.size, q.total)
	}
	b.Put(1, 1, 2)
	lays(t, a, known[9].bytes)
	lays(t, b, []byte{127, 255, 255, 255})
	lays(t, rc.Begin(), []byte{0, 0, 0, 0})
}

func TestP17_1_Nil(t *testing.T) {
	var e *rc.Encoder
	if b := e.Bytes(); len(b) != 0 {
		t.Error(b)
	}
	for _, q := range append([]part{{0, 1, 1}, {1, 1, 2}}, wrong...) {
		if err := e.Put(q.low, q.size, q.total); err != api.ErrNil {
			t.Error(q, err)
		}
	}
}

// Of one that no call made nothing is said, but that it ends.
func TestP17_1_NoneMade(t *testing.T) {
	e := &rc.Encoder{}
	for _, q := range append([]part{{0, 1, 1}, {1, 1, 2}, {65535, 1, 65536}}, wrong...) {
		e.Put(q.low, q.size, q.total)
		e.Bytes()
	}
}

func TestP17_2_FirstFour(t *testing.T) {
	for _, b := range [][]byte{{0, 0, 0, 0}, {127, 255, 255, 255}, {1, 2, 3, 4}, {254, 255, 255, 255}} {
		p := begun(b)
		for _, total := range []int{1, 2, 3, 255, 256, 257, 65535, 65536} {
			d := rc.Read(b)
			if v := d.Find(total); v != int(p.find(total)) || d.Err() != api.OK || d.Done() != api.OK {
				t.Errorf("Find of %d in %v: %d, %d", total, b, v, d.Err())
			}
		}
	}
}

func TestP17_2_FindTakesNothing(t *testing.T) {
	d := rc.Read([]byte{127, 255, 255, 255})
	for range 3 {
		for _, total := range []int{1, 2, 3, 65536} {
			if v := d.Find(total); v != int(begun([]byte{127, 255, 255, 255}).find(total)) {
				t.Error(total, v)
			}
		}
	}
	taken(t, d, []part{{1, 1, 2}})
	if d.Done() != api.OK {
		t.Error(d.Done())
	}
}

func TestP17_2_TooShort(t *testing.T) {
	for _, b := range [][]byte{nil, {}, {0}, {0, 0}, {1, 2, 3}, {255, 255, 255}} {
		stays(t, rc.Read(b), api.ErrPayload)
		d := rc.Read(b)
		if err := d.Take(0, 1, 1); err != api.ErrPayload {
			t.Error(b, err)
		}
		if v := rc.Read(b).Find(1); v != 0 {
			t.Error(b, v)
		}
		if err := rc.Read(b).Take(1, 1, 0); err != api.ErrPayload {
			t.Error(b, err) // the error is named ahead of ErrArg
		}
	}
}

// Find's own errors stay, too.
func TestP17_2_FindWrongTotal(t *testing.T) {
	for _, total := range wrongTotals {
		d := rc.Read([]byte{127, 255, 255, 255, 9})
		if v := d.Find(total); v != 0 {
			t.Error(total, v)
		}
		stays(t, d, api.ErrArg)
	}
}

// A number beyond the whole is in no part.
func TestP17_2_FindBeyond(t *testing.T) {
	d := rc.Read([]byte{255, 255, 255, 255})
	if v := d.Find(1); v != 0 {
		t.Error(v)
	}
	stays(t, d, api.ErrPayload)
	for _, total := range []int{2, 5, 256, 65536, 65535} {
		for _, b := range [][]byte{{255, 255, 255, 255}, {255, 255, 255, 254}} {
			d, v := rc.Read(b), begun(b).find(total)
			got := d.Find(total)
			if v < uint64(total) {
				if got != int(v) || d.Err() != api.OK {
					t.Error(b, total, got, d.Err())
				}
				continue
			}
			if got != 0 {
				t.Error(b, total, got)
			}
			stays(t, d, api.ErrPayload)
		}
	}
	// Each one of 65536 is 65535 wide: 65536 times as much is 255, 255, 0, 0.
	for _, last := range []byte{0, 1, 255} {
		d := rc.Read([]byte{255, 255, 0, last})
		if v := d.Find(65536); v != 0 || d.Err() != api.ErrPayload {
			t.Error(last, v, d.Err())
		}
	}
	if v := rc.Read([]byte{255, 254, 255, 255}).Find(65536); v != 65535 {
		t.Error(v)
	}
}

func TestP17_2_TakeWrong(t *testing.T) {
	for _, q := range wrong {
		d := rc.Read([]byte{127, 255, 255, 255, 9})
		if err := d.Take(q.low, q.size, q.total); err != api.ErrArg {
			t.Errorf("Take of %v: %d", q, err)
		}
		stays(t, d, api.ErrArg)
	}
}

// Take doesn't ask whether the number is within the part.
func TestP17_2_TakeAnother(t *testing.T) {
	d := rc.Read([]byte{127, 255, 255, 255})
	if err := d.Take(0, 1, 2); err != api.OK || d.Err() != api.OK {
		t.Error(err, d.Err())
	}
	if v := d.Find(2); v != 0 {
		t.Error(v)
	}
	stays(t, d, api.ErrPayload)
	d = rc.Read([]byte{0, 0, 0, 0})
	if err := d.Take(1, 1, 2); err != api.OK {
		t.Error(err)
	}
	if v := d.Find(65536); v != 0 { // far behind, by what is modulo 2^32
		t.Error(v)
	}
	stays(t, d, api.ErrPayload)
}

func TestP17_2_NoNextByte(t *testing.T) {
	for _, k := range known {
		for n := range k.bytes {
			d := rc.Read(k.bytes[:n])
			for _, q := range k.parts {
				if d.Take(q.low, q.size, q.total) != api.OK {
					break
				}
			}
			if n < len(k.bytes) {
				stays(t, d, api.ErrPayload)
			}
		}
	}
	d := rc.Read([]byte{0, 0, 0, 0})
	if err := d.Take(0, 1, 65536); err != api.ErrPayload {
		t.Error(err)
	}
}

func TestP17_2_Done(t *testing.T) {
	for _, k := range known {
		for _, more := range [][]byte{{0}, {255}, {1, 2, 3, 4, 5}} {
			d := rc.Read(slices.Concat(k.bytes, more))
			taken(t, d, k.parts)
			if d.Done() != api.ErrPayload || d.Err() != api.OK {
				t.Error(k, d.Done(), d.Err())
			}
		}
	}
	// That bytes are left isn't an error that stays: they may be taken yet.
	d := rc.Read([]byte{0, 0, 0, 0, 0, 0})
	if d.Done() != api.ErrPayload || d.Err() != api.OK {
		t.Error(d.Done(), d.Err())
	}
	taken(t, d, []part{{0, 1, 65536}})
	if d.Done() != api.OK {
		t.Error(d.Done())
	}
}

func TestP17_2_FirstErrorStays(t *testing.T) {
	d := rc.Read([]byte{255, 255, 255, 255})
	d.Find(65536)
	d.Find(0)
	stays(t, d, api.ErrPayload)
	d = rc.Read([]byte{255, 255, 255, 255})
	d.Find(0)
	d.Find(65536)
	d.Take(0, 1, 65536)
	stays(t, d, api.ErrArg)
	d = rc.Read([]byte{0, 0, 0, 0})
	d.Take(0, 1, 65536)
	d.Take(0, 0, 0)
	stays(t, d, api.ErrPayload)
	d = rc.Read([]byte{0, 0, 0, 0})
	d.Take(0, 0, 0)
	d.Take(0, 1, 65536)
	stays(t, d, api.ErrArg)
}

func TestP17_2_NewMemory(t *testing.T) {
	for _, k := range known {
		room := append(slices.Clone(k.bytes), 7, 7, 7)
		then := slices.Clone(room)
		d := rc.Read(room[:len(k.bytes)])
		clear(room)
		taken(t, d, k.parts)
		if d.Done() != api.OK {
			t.Error(k, d.Done())
		}
		copy(room, then)
		d = rc.Read(room[:len(k.bytes)])
		taken(t, d, k.parts)
		d.Take(0, 1, 65536)
		if !slices.Equal(room, then) {
			t.Error("what is handed in is changed", k)
		}
	}
}

func TestP17_2_Nil(t *testing.T) {
	var d *rc.Decoder
	stays(t, d, api.ErrNil)
}

// Of one that no call made nothing is said, but that it ends.
func TestP17_2_NoneMade(t *testing.T) {
	for _, total := range append([]int{1, 2, 65536}, wrongTotals...) {
		d := &rc.Decoder{}
		d.Find(total)
		d.Done()
	}
	for _, q := range append([]part{{0, 1, 1}, {1, 1, 2}, {65535, 1, 65536}}, wrong...) {
		d := &rc.Decoder{}
		d.Take(q.low, q.size, q.total)
		d.Err()
	}
}

// Whatever the bytes, and whatever is taken of them: just what the document's words say is found.
func TestP17_2_AnyBytes(t *testing.T) {
	dice := rand.New(rand.NewSource(2))
	for range 3000 {
		b := make([]byte, 4+dice.Intn(60))
		dice.Read(b)
		if dice.Intn(2) == 0 {
			for i := range b {
				b[i] = byte(255 * dice.Intn(2))
			}
		}
		d, p := rc.Read(b), begun(b)
		for _, q := range thrown(dice, 100) {
			v := p.find(q.total)
			found := d.Find(q.total)
			if v >= uint64(q.total) {
				if found != 0 {
					t.Fatal(b, q, found)
				}
				stays(t, d, api.ErrPayload)
				break
			}
			if found != int(v) || d.Err() != api.OK {
				t.Fatal(b, q, found, v, d.Err())
			}
			if dice.Intn(20) > 0 {
				q = part{int(v), 1, q.total}
			}
			p.narrow(q)
			err := d.Take(q.low, q.size, q.total)
			if p.short {
				if err != api.ErrPayload {
					t.Fatal(b, q, err)
				}
				break
			}
			if err != api.OK || (d.Done() == api.OK) != (len(p.left) == 0) {
				t.Fatal(b, q, err, d.Done())
			}
		}
	}
}

func TestP17_3_Known(t *testing.T) {
	for _, k := range known {
		d := rc.Read(k.bytes)
		taken(t, d, k.parts)
		if d.Done() != api.OK {
			t.Error(k, d.Done())
		}
	}
}

func TestP17_3_FoundAndTaken(t *testing.T) {
	dice := rand.New(rand.NewSource(3))
	for range 2000 {
		parts := thrown(dice, dice.Intn(200))
		d := rc.Read(encoded(t, parts).Bytes())
		taken(t, d, parts)
		if d.Done() != api.OK {
			t.Error(parts, d.Done())
		}
	}
}

// The span wraps round at its end, and is cut again and again: the last and the middle ones of great wholes.
func TestP17_3_ManyParts(t *testing.T) {
	for _, q := range []part{{65535, 1, 65536}, {0, 1, 65536}, {32767, 2, 65536}, {0, 65536, 65536}, {0, 1, 1}, {1, 1, 2}, {0, 65535, 65536}, {1, 65535, 65536}, {254, 1, 255}, {127, 2, 256}} {
		parts := slices.Repeat([]part{q}, 20000)
		d := rc.Read(encoded(t, parts).Bytes())
		taken(t, d, parts)
		if d.Done() != api.OK {
			t.Error(q, d.Done())
		}
	}
}
