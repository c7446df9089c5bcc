package opts_test

import (
	"fmt"
	"math"
	"math/rand"
	"regexp"
	"slices"
	"strconv"
	"strings"
	"testing"

	"winepress/api"
	"winepress/opts"
)

const mostBlock = 1 << 24

var (
	first = api.Options{Block: 65536, Width: 1, Recipe: 0, Mode: 6}
	names = []string{"stored", "rice", "rans", "adapt", "blend", "huff", "auto"}
	keys  = []string{"block", "width", "recipe", "mode"}
)

// beside is numbers beside and far from those that may be.
func beside(least, most int) []int {
	return []int{
		math.MinInt, math.MinInt + 1, math.MinInt32, -256, -2, -1, 0, 1, 2, 3, 4, 5, 6, 7, 8, 9, 10, 11, 12, 16, 64,
		255, 256, 257, 1 << 16, 1<<32 + 1, 1<<32 + 4, 1<<62 + 1, math.MaxInt - 1, math.MaxInt,
		least - 1, least, least + 1, most - 1, most, most + 1,
	}
}

// mayBe is the document's words.
func mayBe(o api.Options) bool {
	return 1 <= o.Block && o.Block <= mostBlock && slices.Contains([]int{1, 2, 4, 8}, o.Width) &&
		0 <= o.Recipe && o.Recipe <= 10 && 0 <= o.Mode && o.Mode <= 6
}

// checks asks Check and Text for what the document says of options.
func checks(t *testing.T, o api.Options) {
	t.Helper()
	e, text := api.ErrOptions, ""
	if mayBe(o) {
		e, text = api.OK, fmt.Sprintf("block=%d width=%d recipe=%d mode=%s", o.Block, o.Width, o.Recipe, names[o.Mode])
	}
	if got := opts.Check(o); got != e {
		t.Errorf("Check of %+v: %d, not %d", o, got, e)
	}
	if got := opts.Text(o); got != text {
		t.Errorf("Text of %+v: %q, not %q", o, got, text)
	}
}

func TestP28_1_Check(t *testing.T) {
	for _, block := range beside(1, mostBlock) {
		checks(t, api.Options{Block: block, Width: 8, Recipe: 10, Mode: 0})
	}
	for _, width := range beside(1, 8) {
		checks(t, api.Options{Block: 1, Width: width, Recipe: 0, Mode: 6})
	}
	for _, recipe := range beside(0, 10) {
		checks(t, api.Options{Block: mostBlock, Width: 2, Recipe: recipe, Mode: 3})
	}
	for _, mode := range beside(0, 6) {
		checks(t, api.Options{Block: 4096, Width: 4, Recipe: 7, Mode: mode})
	}
	checks(t, api.Options{})
}

func TestP28_1_All(t *testing.T) {
	for _, block := range []int{0, 1, 65536, mostBlock, mostBlock + 1} {
		for width := -1; width <= 9; width++ {
			for recipe := -1; recipe <= 11; recipe++ {
				for mode := -1; mode <= 7; mode++ {
					checks(t, api.Options{Block: block, Width: width, Recipe: recipe, Mode: mode})
				}
			}
		}
	}
}

func TestP28_1_First(t *testing.T) {
	if o := opts.First(); o != first {
		t.Errorf("First: %+v", o)
	}
	if e := opts.Check(opts.First()); e != api.OK {
		t.Errorf("Check of First: %d", e)
	}
}

func TestP28_2_Vectors(t *testing.T) {
	for _, v := range []struct {
		o    api.Options
		want string
	}{
		{first, "block=65536 width=1 recipe=0 mode=auto"},
		{api.Options{Block: 1, Width: 8, Recipe: 10, Mode: api.Stored}, "block=1 width=8 recipe=10 mode=stored"},
		{api.Options{Block: 1 << 24, Width: 2, Recipe: 3, Mode: api.Rice}, "block=16777216 width=2 recipe=3 mode=rice"},
		{api.Options{Block: 10, Width: 4, Recipe: 1, Mode: api.Rans}, "block=10 width=4 recipe=1 mode=rans"},
		{api.Options{Block: 100, Width: 4, Recipe: 2, Mode: api.Adapt}, "block=100 width=4 recipe=2 mode=adapt"},
		{api.Options{Block: 9, Width: 1, Recipe: 9, Mode: api.Blend}, "block=9 width=1 recipe=9 mode=blend"},
		{api.Options{Block: 7, Width: 1, Recipe: 8, Mode: api.Huff}, "block=7 width=1 recipe=8 mode=huff"},
		{api.Options{}, ""},
		{api.Options{Block: 0, Width: 1, Recipe: 0, Mode: 0}, ""},
		{api.Options{Block: 1<<24 + 1, Width: 1, Recipe: 0, Mode: 0}, ""},
		{api.Options{Block: 5, Width: 3, Recipe: 0, Mode: 0}, ""},
		{api.Options{Block: 5, Width: 1, Recipe: 11, Mode: 0}, ""},
		{api.Options{Block: 5, Width: 1, Recipe: 0, Mode: 7}, ""},
		{api.Options{Block: 5, Width: 1, Recipe: 0, Mode: -1}, ""},
	} {
		if got := opts.Text(v.o); got != v.want {
			t.Errorf("Text of %+v: %q, not %q", v.o, got, v.want)
		}
	}
}

// reads asks for what a text says, or for why it says nothing.
func reads(t *testing.T, s string, want api.Options, wantErr api.Errno) {
	t.Helper()
	o, e := opts.Read(s)
	if o != want || e != wantErr {
		t.Errorf("Read of %q: %+v, %d, not %+v, %d", s[:min(len(s), 90)], o, e, want, wantErr)
	}
}

func TestP28_3_Example(t *testing.T) {
	reads(t, "width=4 mode=rans", api.Options{Block: 65536, Width: 4, Recipe: 0, Mode: 2}, api.OK)
	reads(t, "width=04", api.Options{}, api.ErrText)
}

func TestP28_3_Read(t *testing.T) {
	reads(t, "", first, api.OK)
	reads(t, "block=1", api.Options{Block: 1, Width: 1, Recipe: 0, Mode: 6}, api.OK)
	reads(t, "block=16777216", api.Options{Block: 1 << 24, Width: 1, Recipe: 0, Mode: 6}, api.OK)
	reads(t, "recipe=0", first, api.OK)
	reads(t, "recipe=10", api.Options{Block: 65536, Width: 1, Recipe: 10, Mode: 6}, api.OK)
	reads(t, "mode=auto", first, api.OK)
	reads(t, "mode=stored recipe=3", api.Options{Block: 65536, Width: 1, Recipe: 3, Mode: 0}, api.OK)
	reads(t, "mode=huff width=8 block=2 recipe=9", api.Options{Block: 2, Width: 8, Recipe: 9, Mode: 5}, api.OK)
	for mode, name := range names {
		reads(t, "mode="+name, api.Options{Block: 65536, Width: 1, Recipe: 0, Mode: mode}, api.OK)
	}
}

func TestP28_3_NoText(t *testing.T) {
	for _, s := range []string{
		" ", "  ", " width=4", "width=4 ", "width=4  mode=rans", "width=4\tmode=rans", "width=4\n", "width=4,mode=rans",
		"width=4\u00a0mode=rans", "width", "=", "=4", "width=", "mode=", "width==4", "width =4", "width= 4", "width:4",
		"width=4=4", "mode=rans=", "Width=4", "WIDTH=4", "widths=4", "widt=4", "w=4", "level=4", "wıdth=4", "\x00width=4",
		"width=04", "width=00", "recipe=00", "recipe=01", "block=0000000001", "block=000000001", "block=1000000000",
		"block=00", "block=9999999999", "block=18446744073709551617", "width=+4", "width=-4", "width=4.0", "width=4e0",
		"width=0x4", "width=1_0", "width=a", "width=:", "width=/", "recipe=0:", "width=٤", "width=４", "width=4\x00", "width=\xff", "\xff", "width=4\xff",
		"mode=", "mode=none", "mode=Rans", "mode=RANS", "mode=2", "mode=rans2", "mode=ran", "mode=\ufffd", "mode=ra ns",
		"width=4 width=4", "width=4 width=8", "mode=rans mode=rans", "mode=rans width=1 mode=huff", "block=0 block=0",
		"width=3 level=1", "block=0 ", "level=1 width=3", "recipe=11 recipe=1", "mode=rans recipe=11 width=01",
		"block=1 width=1 recipe=1 mode=rans block=1", "block=1 width=1 recipe=1 mode=rans ", "block width=1", "block= width=1",
	} {
		reads(t, s, api.Options{}, api.ErrText)
	}
}

func TestP28_3_MayNotBe(t *testing.T) {
	for _, s := range []string{
		"block=0", "block=16777217", "block=999999999", "width=0", "width=3", "width=16", "width=999999999", "recipe=11",
		"recipe=999999999", "mode=rans width=5", "width=3 mode=rans recipe=11 block=0", "block=100000000 width=1",
	} {
		reads(t, s, api.Options{}, api.ErrOptions)
	}
}

var (
	aPair   = regexp.MustCompile(`^(?:(block|width|recipe)=(0|[1-9][0-9]{0,8})|(mode)=(stored|rice|rans|adapt|blend|huff|auto))$`)
	aFigure = []string{"", "0", "1", "2", "3", "4", "8", "10", "11", "01", "123456789", "1234567890", "16777216", "16777217", "x", "-1", " "}
)

// told is what the document's words say of a text.
func told(s string) (api.Options, api.Errno) {
	o := first
	there := map[string]bool{}
	var pairs []string
	if s != "" {
		pairs = strings.Split(s, " ")
	}
	for _, pair := range pairs {
		m := aPair.FindStringSubmatch(pair)
		if m == nil || there[m[1]+m[3]] {
			return api.Options{}, api.ErrText
		}
		there[m[1]+m[3]] = true
		n, _ := strconv.Atoi(m[2])
		switch m[1] + m[3] {
		case "block":
			o.Block = n
		case "width":
			o.Width = n
		case "recipe":
			o.Recipe = n
		case "mode":
			o.Mode = slices.Index(names, m[4])
		}
	}
	if !mayBe(o) {
		return api.Options{}, api.ErrOptions
	}
	return o, api.OK
}

// thrown is a text of pairs, some of them wrong, a few of its bytes spoilt now and then.
func thrown(dice *rand.Rand) string {
	pairs := make([]string, dice.Intn(6))
	for i, k := range dice.Perm(6)[:len(pairs)] {
		key := keys[k%4]
		value := aFigure[1+dice.Intn(7)]
		switch {
		case dice.Intn(15) == 0:
			value = aFigure[dice.Intn(len(aFigure))]
		case key == "mode":
			value = names[dice.Intn(7)]
		}
		pairs[i] = key + "=" + value
	}
	b := []byte(strings.Join(pairs, " "))
	for len(b) > 0 && dice.Intn(6) == 0 {
		b[dice.Intn(len(b))] = " =019abcdek\x80\xc3\xff"[dice.Intn(14)]
	}
	return string(b)
}

func TestP28_3_Thrown(t *testing.T) {
	dice := rand.New(rand.NewSource(28))
	seen := map[api.Errno]int{}
	for range 40000 {
		s := thrown(dice)
		o, e := told(s)
		seen[e]++
		reads(t, s, o, e)
	}
	for _, e := range []api.Errno{api.OK, api.ErrText, api.ErrOptions} {
		if seen[e] < 1000 {
			t.Errorf("only %d texts of the error %d", seen[e], e)
		}
	}
}

func TestP28_3_LongTexts(t *testing.T) {
	for _, s := range []string{
		strings.Repeat(" ", 1<<22), strings.Repeat("=", 1<<22), strings.Repeat("1", 1<<22), "block=" + strings.Repeat("1", 1<<22),
		"mode=" + strings.Repeat("r", 1<<22), strings.Repeat("width=4 ", 1<<19), strings.Repeat("\xff", 1<<22),
	} {
		reads(t, s, api.Options{}, api.ErrText)
	}
}

// orders calls with each order of pairs.
func orders(pairs []string, call func([]string)) {
	if len(pairs) < 2 {
		call(pairs)
		return
	}
	for i := range pairs {
		rest := slices.Delete(slices.Clone(pairs), i, i+1)
		orders(rest, func(l []string) { call(append([]string{pairs[i]}, l...)) })
	}
}

func TestP28_4_AnyOrder(t *testing.T) {
	many := 0
	for _, block := range []int{1, 9, 10, 65535, 65536, 999999, 1000000, mostBlock - 1, mostBlock} {
		for _, width := range []int{1, 2, 4, 8} {
			for recipe := range 11 {
				for mode := range 7 {
					o := api.Options{Block: block, Width: width, Recipe: recipe, Mode: mode}
					reads(t, opts.Text(o), o, api.OK)
					if (recipe+mode)%5 == 0 {
						orders(strings.Split(opts.Text(o), " "), func(l []string) {
							many++
							reads(t, strings.Join(l, " "), o, api.OK)
						})
					}
				}
			}
		}
	}
	if many < 24*100 {
		t.Errorf("only %d orders", many)
	}
}

func TestP28_4_AnyOptions(t *testing.T) {
	dice := rand.New(rand.NewSource(284))
	for range 20000 {
		o := api.Options{Block: 1 + dice.Intn(1<<dice.Intn(25)), Width: 1 << dice.Intn(4), Recipe: dice.Intn(11), Mode: dice.Intn(7)}
		checks(t, o)
		reads(t, opts.Text(o), o, api.OK)
	}
}
