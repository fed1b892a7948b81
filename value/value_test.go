package value_test

import (
	"math"
	"slices"
	"strings"
	"testing"

	"quire/api"
	"quire/value"
)

// theNaN: the bits of the one NaN that is ever answered.
const theNaN = 0x7FF8000000000000

var minusZero = math.Copysign(0, -1)

func boolean(n int64) api.Value { return api.Value{Kind: api.ValBool, N: n} }

func integer(n int64) api.Value { return api.Value{Kind: api.ValInt, N: n} }

func float(f float64) api.Value { return api.Value{Kind: api.ValFloat, F: f} }

func floatOf(bits uint64) api.Value { return float(math.Float64frombits(bits)) }

func text(s string) api.Value { return api.Value{Kind: api.ValText, S: s} }

// nans: the bits of NaNs: quiet and signalling ones, of both signs, at the edges of their bits.
func nans() []uint64 {
	return []uint64{
		theNaN, theNaN + 1, math.Float64bits(math.NaN()),
		0x7FF0000000000001, 0x7FF4000000000000, 0x7FFFFFFFFFFFFFFF,
		0xFFF8000000000000, 0xFFF0000000000001, 0xFFFFFFFFFFFFFFFF,
	}
}

// ordered: right values, each below the next one.
func ordered() []api.Value {
	l := []api.Value{{}, boolean(0), boolean(1)}
	for _, n := range []int64{math.MinInt64, math.MinInt64 + 1, -1 << 53, -256, -1, 0, 1, 2, 255, 1 << 53, 1<<53 + 1, math.MaxInt64 - 1, math.MaxInt64} {
		l = append(l, integer(n))
	}
	for _, f := range []float64{
		math.Inf(-1), -math.MaxFloat64, -2, -1, -0x1p-1022, -math.SmallestNonzeroFloat64, minusZero,
		0, math.SmallestNonzeroFloat64, 0x1p-1022, 0.1, 1, math.Nextafter(1, 2), 2, math.MaxFloat64, math.Inf(1),
	} {
		l = append(l, float(f))
	}
	l = append(l, floatOf(theNaN))
	for _, s := range []string{"", "\x00", "\x00\x00", "\"", "\"\"", "-1", "0", "1", "A", "\\", "\\\"", "\\\\", "a", "a\x00", "aa", "b", "f3ff0000000000000", "map", "null", "true", "é", "\uFFFD", "\uFFFF", "\U00010000", "\U0010FFFF"} {
		l = append(l, text(s))
	}
	return append(l, api.Value{Kind: api.ValMap})
}

// wrongTexts: what isn't right UTF-8.
func wrongTexts() []string {
	return []string{
		"\xFF", "a\x80", "\xC3", "\xC3a", "\xE2\x82", "\xF0\x9F\x98",
		"\xC0\x80", "\xC1\xBF", "\xE0\x9F\xBF", "\xF0\x8F\xBF\xBF", // not the shortest forms
		"\xED\xA0\x80", "\xED\xBF\xBF", // surrogates
		"\xF4\x90\x80\x80", "\xF5\x80\x80\x80", // above 10FFFF
	}
}

// refused: values that Check refuses.
func refused() []api.Value {
	l := []api.Value{
		{Kind: -1}, {Kind: api.ValMap + 1}, {Kind: 256}, {Kind: 256 + api.ValInt}, {Kind: math.MaxInt}, {Kind: math.MinInt},
		boolean(2), boolean(-1), boolean(256), boolean(257), boolean(math.MinInt64), boolean(math.MaxInt64),
		text(strings.Repeat("a", api.MaxString+1)), text(strings.Repeat("é", api.MaxString/2) + "a"),
		text(strings.Repeat("a", api.MaxString-1) + "\xC3"),
	}
	for _, s := range wrongTexts() {
		l = append(l, text(s))
	}
	for kind := range api.ValMap + 1 {
		if kind != api.ValBool && kind != api.ValInt {
			l = append(l, api.Value{Kind: kind, N: 1}, api.Value{Kind: kind, N: -1}, api.Value{Kind: kind, N: math.MinInt64})
		}
		if kind != api.ValFloat {
			for _, f := range []float64{1, minusZero, math.SmallestNonzeroFloat64, math.Inf(1), math.Inf(-1), math.Float64frombits(theNaN)} {
				l = append(l, api.Value{Kind: kind, F: f})
			}
		}
		if kind != api.ValText {
			l = append(l, api.Value{Kind: kind, S: "a"}, api.Value{Kind: kind, S: "\x00"}, api.Value{Kind: kind, S: "\xFF"})
		}
	}
	return append(l, api.Value{Kind: api.ValBool, N: 1, F: minusZero}, api.Value{Kind: api.ValFloat, F: 1, S: "a"}, api.Value{Kind: api.ValText, S: "a", N: 1})
}

// alike: whether all fields are, to the last bit.
func alike(a, b api.Value) bool {
	return a.Kind == b.Kind && a.N == b.N && math.Float64bits(a.F) == math.Float64bits(b.F) && a.S == b.S
}

func TestP2_1CheckTakes(t *testing.T) {
	l := append(ordered(), text(strings.Repeat("a", api.MaxString)), text(strings.Repeat("é", api.MaxString/2)), text(strings.Repeat("\x00", api.MaxString)))
	for _, bits := range nans() {
		l = append(l, floatOf(bits))
	}
	for _, v := range l {
		if e := value.Check(v); e != api.OK {
			t.Errorf("%v: %v", v, e)
		}
	}
}

func TestP2_1CheckRefuses(t *testing.T) {
	for _, v := range refused() {
		if e := value.Check(v); e != api.ErrValueKind {
			t.Errorf("%v: %v", v, e)
		}
	}
}

func TestP2_1Clean(t *testing.T) {
	for _, v := range slices.Concat(ordered(), refused()) {
		if got := value.Clean(v); !alike(got, v) {
			t.Errorf("%v: %v", v, got)
		}
	}
}

// No NaN but one is ever answered: of whatever kind the value is that holds another.
func TestP2_1CleanNaN(t *testing.T) {
	for _, bits := range nans() {
		for kind := -1; kind <= api.ValMap+1; kind++ {
			v := api.Value{Kind: kind, N: 7, F: math.Float64frombits(bits), S: "a"}
			want := api.Value{Kind: kind, N: 7, F: math.Float64frombits(theNaN), S: "a"}
			if got := value.Clean(v); !alike(got, want) {
				t.Errorf("kind %d, %X: %v, %X", kind, bits, got, math.Float64bits(got.F))
			}
		}
	}
}

// checkOrder: l is in Cmp's order, each value below the next one.
func checkOrder(t *testing.T, l []api.Value) {
	t.Helper()
	for i, a := range l {
		for k, b := range l {
			want := 0
			switch {
			case i < k:
				want = -1
			case i > k:
				want = 1
			}
			if got := value.Cmp(a, b); got != want {
				t.Errorf("Cmp(%v, %v): %d, not %d", a, b, got, want)
			}
			if got := value.Same(a, b); got != (want == 0) {
				t.Errorf("Same(%v, %v): %v", a, b, got)
			}
		}
	}
}

func TestP2_2Order(t *testing.T) {
	checkOrder(t, ordered())
	if got := value.Cmp(float(minusZero), float(0)); got != -1 {
		t.Errorf("the chapter's example: Cmp(float -0, float 0): %d", got)
	}
}

func TestP2_2OneNaN(t *testing.T) {
	for _, a := range nans() {
		for _, b := range nans() {
			if value.Cmp(floatOf(a), floatOf(b)) != 0 || !value.Same(floatOf(a), floatOf(b)) {
				t.Errorf("%X and %X are two", a, b)
			}
		}
		for _, f := range []float64{math.Inf(-1), -1, minusZero, 0, 1, math.MaxFloat64, math.Inf(1)} {
			if value.Cmp(floatOf(a), float(f)) != 1 || value.Cmp(float(f), floatOf(a)) != -1 || value.Same(float(f), floatOf(a)) {
				t.Errorf("%X isn't above %v", a, f)
			}
		}
	}
}

// Of values that Check refuses: by Kind, then N, then F as floats, then S.
func TestP2_2OrderOfRefused(t *testing.T) {
	nan := math.Float64frombits(0xFFF0000000000001)
	var l []api.Value
	for _, kind := range []int{math.MinInt, -1, api.ValNull, api.ValBool, api.ValInt, api.ValFloat, api.ValText, api.ValMap, api.ValMap + 1, 300, math.MaxInt} {
		for _, n := range []int64{math.MinInt64, -1, 0, 1, 2, math.MaxInt64} {
			for _, f := range []float64{math.Inf(-1), -1, minusZero, 0, 1, math.Inf(1), nan} {
				for _, s := range []string{"", "a", "ab", "b", "\xFF"} {
					l = append(l, api.Value{Kind: kind, N: n, F: f, S: s})
				}
			}
		}
	}
	for i, v := range l {
		for k := max(0, i-40); k < min(len(l), i+41); k++ {
			checkPair(t, v, l[k], i-k)
		}
		checkPair(t, v, l[0], i)
		checkPair(t, v, l[len(l)-1], i-len(l)+1)
		checkPair(t, v, l[len(l)/2], i-len(l)/2)
	}
}

// checkPair: Cmp(a, b) has the sign of d.
func checkPair(t *testing.T, a, b api.Value, d int) {
	t.Helper()
	want := max(-1, min(1, d))
	if got := value.Cmp(a, b); got != want || value.Same(a, b) != (want == 0) {
		t.Errorf("%v, %v: %d, not %d", a, b, got, want)
	}
}

// checkSum: Add of a and b, in both orders.
func checkSum(t *testing.T, a, b, want api.Value) {
	t.Helper()
	if got := value.Add(a, b); !alike(got, want) {
		t.Errorf("Add(%v, %v): %v, not %v", a, b, got, want)
	}
	if got := value.Add(b, a); !alike(got, want) {
		t.Errorf("Add(%v, %v): %v, not %v", b, a, got, want)
	}
}

func TestP2_4AddInts(t *testing.T) {
	for _, x := range []struct{ a, b, want int64 }{
		{0, 0, 0}, {1, 2, 3}, {-5, 3, -2}, {-5, 5, 0}, {1 << 53, 1, 1<<53 + 1},
		{math.MaxInt64, 1, math.MinInt64}, {math.MaxInt64, math.MaxInt64, -2},
		{math.MinInt64, -1, math.MaxInt64}, {math.MinInt64, math.MinInt64, 0}, {math.MinInt64, math.MaxInt64, -1},
	} {
		checkSum(t, integer(x.a), integer(x.b), integer(x.want))
	}
}

func TestP2_4AddFloats(t *testing.T) {
	inf := math.Inf(1)
	for _, x := range []struct{ a, b, want float64 }{
		{1, 2, 3}, {0.1, 0.2, 0.30000000000000004}, {1, -1, 0},
		{0, 0, 0}, {minusZero, minusZero, minusZero}, {minusZero, 0, 0},
		{1, 0x1p-53, 1}, {1 + 0x1p-52, 0x1p-53, 1 + 0x1p-51}, {1, 0x1.8p-53, 1 + 0x1p-52}, // halves to the even one
		{math.MaxFloat64, math.MaxFloat64, inf}, {-math.MaxFloat64, -math.MaxFloat64, -inf}, {math.MaxFloat64, 0x1p969, math.MaxFloat64}, {math.MaxFloat64, 0x1p970, inf},
		{math.SmallestNonzeroFloat64, math.SmallestNonzeroFloat64, 0x1p-1073}, {math.SmallestNonzeroFloat64, -math.SmallestNonzeroFloat64, 0},
		{inf, inf, inf}, {-inf, -inf, -inf}, {inf, -math.MaxFloat64, inf}, {inf, minusZero, inf},
	} {
		checkSum(t, float(x.a), float(x.b), float(x.want))
	}
}

func TestP2_4AddNaN(t *testing.T) {
	checkSum(t, float(math.Inf(1)), float(math.Inf(-1)), floatOf(theNaN))
	for _, bits := range nans() {
		for _, v := range []api.Value{float(0), float(1), float(math.Inf(1)), float(math.Inf(-1)), floatOf(bits), integer(3), floatOf(theNaN)} {
			checkSum(t, floatOf(bits), v, floatOf(theNaN))
		}
	}
}

func TestP2_4AddFloatAndInt(t *testing.T) {
	for _, x := range []struct {
		f    float64
		n    int64
		want float64
	}{
		{0.5, 1, 1.5}, {0.5, -1, -0.5}, {minusZero, 0, 0}, {0, 0, 0},
		{0, 1<<53 + 1, 1 << 53}, {0, 1<<53 + 3, 1<<53 + 4}, {0, -1<<53 - 1, -1 << 53}, {0, -1<<53 - 3, -1<<53 - 4},
		{0, math.MaxInt64, 0x1p63}, {0, math.MinInt64, -0x1p63}, {-0x1p63, math.MaxInt64, 0},
		{1, 1<<53 + 1, 1 << 53},        // rounded ahead: the sum at once would be 2^53 + 2
		{-0x1p53, 1<<53 + 1, 0},        // not 1
		{0.5, 1<<54 + 2, 1 << 54},      // half to even
		{math.Inf(1), -1, math.Inf(1)}, // an infinity stays
		{math.Inf(-1), 1 << 62, -math.Inf(1)},
	} {
		checkSum(t, float(x.f), integer(x.n), float(x.want))
	}
}

func TestP2_4AddOthers(t *testing.T) {
	numbers := []api.Value{integer(0), integer(1), float(0), float(1), floatOf(theNaN)}
	others := []api.Value{{}, boolean(0), boolean(1), text(""), text("1"), {Kind: api.ValMap}, {Kind: -1}, {Kind: api.ValMap + 1}, {Kind: 256 + api.ValInt, N: 1}}
	for _, a := range others {
		for _, b := range slices.Concat(numbers, others) {
			checkSum(t, a, b, api.Value{})
		}
	}
}

// In an answer each field that isn't named is zero, whatever the numbers that are handed in hold beside.
func TestP2_4AddAnswersNoMore(t *testing.T) {
	n, f := integer(4), float(0.5)
	n.S, n.F, f.S, f.N = "a", 2, "b", 9
	checkSum(t, n, n, integer(8))
	checkSum(t, n, f, float(4.5))
	checkSum(t, f, f, float(1))
}
