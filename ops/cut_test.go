package ops_test

import (
	"math"
	"strings"
	"testing"

	"quire/api"
	"quire/ops"
)

func TestP8_2TheChaptersExample(t *testing.T) {
	got, ok := ops.Cut(text(1, 5, api.Id{}, api.Id{}, "abc"), 1, 3)
	if !ok || !exact(got, text(1, 6, id(1, 5), api.Id{}, "bc")) {
		t.Errorf("%v, %v", got, ok)
	}
}

func TestP8_2LenAndRange(t *testing.T) {
	for _, x := range []struct {
		s string
		n int
	}{
		{"", 0}, {"a", 1}, {"ab", 2}, {"é", 1}, {"a\U0001F600b", 3}, {"\x00", 1},
		{strings.Repeat("\U0001F600", api.MaxText), api.MaxText}, {strings.Repeat("é", api.MaxText+1), api.MaxText + 1},
		{"\xFF", 0}, {"abc\xFF", 0},
	} {
		o := text(7, 5, api.Id{}, api.Id{}, x.s)
		if got := ops.Len(o); got != x.n {
			t.Errorf("Len: %d, not %d", got, x.n)
		}
		if got := ops.Range(o); got != (api.Range{Client: 7, From: 5, To: 5 + uint64(x.n)}) {
			t.Errorf("Range of %d: %v", x.n, got)
		}
	}
	for _, o := range append(kinds()[1:], api.Op{}, api.Op{Kind: -1}, api.Op{Kind: 5}) {
		o.Id = id(7, 5)
		for _, o.Text = range []string{"", "abc", "\xFF"} {
			if ops.Len(o) != 1 || ops.Range(o) != (api.Range{Client: 7, From: 5, To: 6}) {
				t.Errorf("kind %d: %d, %v", o.Kind, ops.Len(o), ops.Range(o))
			}
		}
	}
	if got := ops.Range(text(top, top, api.Id{}, api.Id{}, "a")); got != (api.Range{Client: top, From: top, To: top + 1}) {
		t.Errorf("Range at the last clock: %v", got)
	}
}

// places: what from and to are taken from, for an operation of n clocks.
func places(n int) []int {
	l := []int{math.MinInt, -1, math.MaxInt}
	for i := 0; i <= n+2; i++ {
		l = append(l, i)
	}
	return l
}

func TestP8_2CutOfTexts(t *testing.T) {
	for _, o := range []api.Op{
		text(3, 5, id(1, 1), id(2, 2), "a"),
		text(3, 5, id(1, 1), id(2, 2), "aé\U0001F600d"),
		text(3, 1, api.Id{}, api.Id{}, "\x00\uFFFF"),
		text(top, top-2, id(top, 1), api.Id{}, "xyz"),
	} {
		runes := []rune(o.Text)
		for _, from := range places(len(runes)) {
			for _, to := range places(len(runes)) {
				want, wantOk := api.Op{}, from >= 0 && from < to && to <= len(runes)
				if wantOk {
					want = o
					want.Text = string(runes[from:to])
				}
				if wantOk && from > 0 {
					want.Id.Clock = o.Id.Clock + uint64(from)
					want.Left = id(o.Id.Client, want.Id.Clock-1)
				}
				got, ok := ops.Cut(o, from, to)
				if ok != wantOk || !exact(got, want) {
					t.Errorf("Cut %v, %d, %d: %v, %v", o, from, to, got, ok)
				}
				if ok && (ops.Check(got) != api.OK || ops.Len(got) != to-from) {
					t.Errorf("Cut %v, %d, %d is none: %v", o, from, to, got)
				}
			}
		}
	}
}

func TestP8_2CutOfOthers(t *testing.T) {
	for _, o := range append(kinds()[1:], api.Op{}, api.Op{Id: id(1, 1), Kind: 5, Text: "abc"}) {
		for _, from := range places(1) {
			for _, to := range places(1) {
				want, wantOk := api.Op{}, from == 0 && to == 1
				if wantOk {
					want = o
				}
				if got, ok := ops.Cut(o, from, to); ok != wantOk || !exact(got, want) {
					t.Errorf("Cut of kind %d, %d, %d: %v, %v", o.Kind, from, to, got, ok)
				}
			}
		}
	}
}

func TestP8_2CutOfNoText(t *testing.T) {
	for _, s := range append(wrongTexts(), "") {
		for _, from := range places(3) {
			for _, to := range places(3) {
				if got, ok := ops.Cut(text(1, 5, id(2, 2), api.Id{}, s), from, to); ok || !exact(got, api.Op{}) {
					t.Errorf("Cut %q, %d, %d: %v, %v", s, from, to, got, ok)
				}
			}
		}
	}
}

func TestP8_2CutTellsOneNaN(t *testing.T) {
	for _, bits := range []uint64{theNaN, theNaN + 1, 0x7FF0000000000001, 0xFFFFFFFFFFFFFFFF} {
		o := embed()
		o.V = nanOf(bits)
		if got, _ := ops.Cut(o, 0, 1); math.Float64bits(got.V.F) != theNaN {
			t.Errorf("NaN %x: %x", bits, math.Float64bits(got.V.F))
		}
	}
}

func TestP8_2CutOfLongTexts(t *testing.T) {
	o := text(1, 1, api.Id{}, id(9, 9), strings.Repeat("é", api.MaxText))
	if got, ok := ops.Cut(o, 0, api.MaxText); !ok || !exact(got, o) {
		t.Error("the whole of it isn't itself")
	}
	if got, ok := ops.Cut(o, api.MaxText-1, api.MaxText); !ok || !exact(got, text(1, api.MaxText, id(1, api.MaxText-1), id(9, 9), "é")) {
		t.Errorf("its last rune: %v, %v", got, ok)
	}
	for _, x := range [][2]int{{0, api.MaxText + 1}, {api.MaxText, api.MaxText + 1}, {api.MaxText, api.MaxText}, {api.MaxText + 1, api.MaxText + 2}} {
		if got, ok := ops.Cut(o, x[0], x[1]); ok || !exact(got, api.Op{}) {
			t.Errorf("beyond it: %v, %v", got.Id, ok)
		}
	}
}
