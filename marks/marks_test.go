package marks_test

import (
	"math"
	"math/rand"
	"slices"
	"testing"

	"quire/api"
	"quire/marks"
	"quire/seq"
)

// Units as tests name them: of several clients, so that their places aren't their clocks.
var a, b, c, d = id(7, 3), id(2, 1), id(7, 1), id(top, top)

// strange: ids of no unit of any test, right ones and others.
var strange = []api.Id{id(7, 2), id(7, 4), id(2, 2), id(1, 1), id(3, 1), id(top, 1), id(top-1, top), id(0, 1), id(1, 0), id(7, 0), id(0, 3), id(top+1, 1), id(7, top+1), id(math.MaxUint64, math.MaxUint64)}

func TestP11_1Gap(t *testing.T) {
	s := row(t, a, b, c, d)
	for _, x := range []struct {
		what string
		a    api.Anchor
		want int
	}{
		{"ahead of all", start, 0}, {"behind all", end, 4},
		{"ahead of the first", ahead(a), 0}, {"behind the first", behind(a), 1},
		{"ahead of the second", ahead(b), 1}, {"behind the second", behind(b), 2},
		{"ahead of the third", ahead(c), 2}, {"behind the third", behind(c), 3},
		{"ahead of the last", ahead(d), 3}, {"behind the last", behind(d), 4},
	} {
		if n, ok := marks.Gap(s, x.a); n != x.want || !ok {
			t.Errorf("%s: %d, %v, not %d", x.what, n, ok, x.want)
		}
	}
	for _, x := range strange {
		for _, y := range []api.Anchor{ahead(x), behind(x)} {
			if n, ok := marks.Gap(s, y); n != 0 || ok {
				t.Errorf("%v isn't there: %d, %v", y, n, ok)
			}
		}
	}
}

func TestP11_1GapOfAnEmptySequence(t *testing.T) {
	s := seq.New()
	for _, x := range []api.Anchor{start, end} {
		if n, ok := marks.Gap(s, x); n != 0 || !ok {
			t.Errorf("%v: %d, %v", x, n, ok)
		}
	}
	for _, x := range append(strange, a, b, c, d) {
		for _, y := range []api.Anchor{ahead(x), behind(x)} {
			if n, ok := marks.Gap(s, y); n != 0 || ok {
				t.Errorf("%v isn't there: %d, %v", y, n, ok)
			}
			for _, o := range []api.Op{mark(c, 1, y, end, "k", integer(1)), mark(c, 1, start, y, "k", integer(1)), mark(c, 1, start, end, "k", integer(1))} {
				if from, to := marks.Over(s, o); from != 0 || to != 0 {
					t.Errorf("Over %v: %d, %d", o, from, to)
				}
			}
		}
	}
}

// TestP11_1GapAsUnitsCome: an anchor stays with its unit, start and end with none.
func TestP11_1GapAsUnitsCome(t *testing.T) {
	s := row(t, a, b)
	come := func(u api.Unit) {
		if !s.Insert(u) {
			t.Fatal("the test's own")
		}
	}
	check := func(what string, want ...int) {
		t.Helper()
		for i, x := range []api.Anchor{start, ahead(a), behind(a), ahead(b), behind(b), end} {
			if n, ok := marks.Gap(s, x); n != want[i] || !ok {
				t.Errorf("%s: %v: %d, %v, not %d", what, x, n, ok, want[i])
			}
		}
	}
	check("a b", 0, 0, 1, 1, 2, 2)
	come(api.Unit{Id: c, Left: a, Right: b})
	check("a c b", 0, 0, 1, 2, 3, 3)
	come(api.Unit{Id: d, Right: a})
	check("d a c b", 0, 1, 2, 3, 4, 4)
	come(api.Unit{Id: id(9, 9), Left: b})
	check("d a c b x", 0, 1, 2, 3, 4, 5)
}

// TestP11_1GapOfALongRun: places are counted, not gone through.
func TestP11_1GapOfALongRun(t *testing.T) {
	const n = 1 << 30
	s := seq.New()
	s.Run(api.Unit{Id: id(1, 1)}, n)
	for _, x := range []struct {
		a    api.Anchor
		want int
	}{{start, 0}, {end, n}, {ahead(id(1, n)), n - 1}, {behind(id(1, n)), n}, {ahead(id(1, n/2)), n/2 - 1}, {behind(id(1, n/2)), n / 2}} {
		if got, ok := marks.Gap(s, x.a); got != x.want || !ok {
			t.Errorf("%v: %d, %v, not %d", x.a, got, ok, x.want)
		}
	}
	if got := marks.At(s, list(mark(a, 1, behind(id(1, n-1)), end, "k", integer(1))), n-1); !exactMarks(got, shows("k", integer(1))) {
		t.Errorf("At the last place: %v", got)
	}
}

func TestP11_1Over(t *testing.T) {
	s := row(t, a, b, c, d)
	gone := id(7, 2)
	for _, x := range []struct {
		what       string
		from, to   api.Anchor
		first, end int
	}{
		{"from ahead to behind", ahead(b), behind(c), 1, 3},
		{"from ahead to ahead", ahead(b), ahead(d), 1, 3},
		{"from behind to behind", behind(a), behind(c), 1, 3},
		{"from behind to ahead", behind(a), ahead(c), 1, 2},
		{"one unit", ahead(b), behind(b), 1, 2},
		{"the first unit", start, behind(a), 0, 1},
		{"the last unit", ahead(d), end, 3, 4},
		{"all", start, end, 0, 4},
		{"all, by units", ahead(a), behind(d), 0, 4},
		{"From behind To", ahead(c), behind(a), 0, 0},
		{"From behind To, one unit", behind(b), ahead(b), 0, 0},
		{"from the end to the start", end, start, 0, 0},
		{"from the end on", end, behind(d), 0, 0},
		{"to the start", ahead(a), start, 0, 0},
		{"one anchor", ahead(b), ahead(b), 0, 0},
		{"one anchor, behind", behind(b), behind(b), 0, 0},
		{"one gap, two units", behind(a), ahead(b), 0, 0},
		{"one gap, two units about", ahead(b), behind(a), 0, 0},
		{"the start twice", start, start, 0, 0},
		{"the start, and ahead of the first", start, ahead(a), 0, 0},
		{"the end twice", end, end, 0, 0},
		{"behind the last, and the end", behind(d), end, 0, 0},
		{"From not told", ahead(gone), end, 0, 0},
		{"From not told, behind", behind(gone), behind(c), 0, 0},
		{"To not told", start, ahead(gone), 0, 0},
		{"To not told, behind", ahead(b), behind(gone), 0, 0},
		{"both not told", ahead(gone), behind(gone), 0, 0},
		{"both not told, of two", ahead(id(0, 1)), behind(gone), 0, 0},
	} {
		for _, kind := range []int{api.OpMark, api.OpText, api.OpEmbed, api.OpSet, 0, -1} {
			o := mark(id(1, 1), 1, x.from, x.to, "k", integer(1))
			o.Kind = kind
			if from, to := marks.Over(s, o); from != x.first || to != x.end {
				t.Errorf("%s: %d, %d, not %d, %d", x.what, from, to, x.first, x.end)
			}
		}
	}
}

func TestP11_1Less(t *testing.T) {
	stamps := []uint64{0, 1, 2, top, top + 1, math.MaxUint64}
	names := []api.Id{none, id(0, 5), id(1, 0), id(1, 1), id(1, 2), id(1, top), id(2, 1), id(2, math.MaxUint64), id(top, 1), id(top, top), id(math.MaxUint64, 0)}
	var l []api.Op // in order
	for _, stamp := range stamps {
		for _, x := range names {
			l = append(l, mark(x, stamp, start, end, "k", integer(1)))
		}
	}
	for i, x := range l {
		for k, y := range l {
			if got := marks.Less(x, y); got != (i < k) {
				t.Errorf("Less %d %v, %d %v: %v", x.Stamp, x.Id, y.Stamp, y.Id, got)
			}
		}
	}
}

// TestP11_1LessAsksNothingElse: neither kind nor key nor value nor anchors nor any other field.
func TestP11_1LessAsksNothingElse(t *testing.T) {
	l := list(
		api.Op{},
		api.Op{Kind: api.OpMark, Key: "k", V: integer(4), From: ahead(a), To: behind(d)},
		api.Op{Kind: api.OpSet, Key: "a", V: floatOf(theNaN), Parent: b},
		api.Op{Kind: api.OpText, Text: "abc", Left: a, Right: b},
	)
	for _, x := range l {
		for _, y := range l {
			if marks.Less(x, y) {
				t.Errorf("Less %v, %v", x, y)
			}
			y.Id = id(1, 1)
			if !marks.Less(x, y) || marks.Less(y, x) {
				t.Errorf("by Id: %v, %v", x, y)
			}
			x := x
			x.Stamp = 1
			if !marks.Less(y, x) || marks.Less(x, y) {
				t.Errorf("by Stamp: %v, %v", y, x)
			}
		}
	}
}

func TestP11_2Example(t *testing.T) {
	s := row(t, a, b, c)
	bold := mark(id(1, 1), 1, ahead(a), behind(b), "bold", boolean(1))
	not := mark(id(2, 5), 2, ahead(b), end, "bold", null)
	checkPlaces(t, "a alone is bold", s, list(bold, not), shows("bold", boolean(1)), nil, nil)
	checkPlaces(t, "about", s, list(not, bold), shows("bold", boolean(1)), nil, nil)
}

func TestP11_2Places(t *testing.T) {
	s := row(t, a, b, c)
	one, two := integer(1), integer(2)
	m := func(n uint64, from, to api.Anchor, v api.Value) api.Op { return mark(id(1, n), n, from, to, "k", v) }
	k1, k2 := shows("k", one), shows("k", two)
	for _, x := range []struct {
		what string
		l    []api.Op
		want [][]api.Mark
	}{
		{"nil", nil, [][]api.Mark{nil, nil, nil}},
		{"empty", list(), [][]api.Mark{nil, nil, nil}},
		{"over nothing", list(m(1, behind(a), ahead(b), one), m(2, end, start, one), m(3, ahead(d), end, one), m(4, start, start, one)), [][]api.Mark{nil, nil, nil}},
		{"over the first", list(m(1, start, behind(a), one)), [][]api.Mark{k1, nil, nil}},
		{"over one", list(m(1, ahead(b), ahead(c), one)), [][]api.Mark{nil, k1, nil}},
		{"over the last", list(m(1, behind(b), end, one)), [][]api.Mark{nil, nil, k1}},
		{"over all", list(m(1, start, end, one)), [][]api.Mark{k1, k1, k1}},
		{"next to each other", list(m(1, start, behind(a), one), m(2, ahead(b), end, two)), [][]api.Mark{k1, k2, k2}},
		{"the greater one within", list(m(1, start, end, one), m(2, ahead(b), behind(b), two)), [][]api.Mark{k1, k2, k1}},
		{"the lesser one within", list(m(2, start, end, two), m(1, ahead(b), behind(b), one)), [][]api.Mark{k2, k2, k2}},
		{"overlapping", list(m(1, start, behind(b), one), m(2, ahead(b), end, two)), [][]api.Mark{k1, k2, k2}},
		{"overlapping, about", list(m(2, start, behind(b), two), m(1, ahead(b), end, one)), [][]api.Mark{k2, k2, k1}},
		{"one start", list(m(1, start, end, one), m(2, start, behind(a), two)), [][]api.Mark{k2, k1, k1}},
		{"one end", list(m(1, start, end, one), m(2, ahead(c), end, two)), [][]api.Mark{k1, k1, k2}},
		{"doubled", list(m(1, start, behind(b), one), m(1, start, behind(b), one)), [][]api.Mark{k1, k1, nil}},
		{"over nothing, later", list(m(1, start, end, one), m(9, end, start, two), m(8, ahead(d), end, two)), [][]api.Mark{k1, k1, k1}},
	} {
		checkPlaces(t, x.what, s, x.l, x.want...)
	}
}

// TestP11_2OthersSayNothing: a mark's fields in operations of other kinds.
func TestP11_2OthersSayNothing(t *testing.T) {
	s := row(t, a, b)
	m := mark(id(1, 1), 1, start, behind(a), "k", integer(1))
	for _, kind := range []int{0, api.OpText, api.OpEmbed, api.OpSet, api.OpSet + 1, -1, api.OpMark + 256, math.MaxInt, math.MinInt} {
		for _, v := range []api.Value{null, integer(2)} {
			other := mark(id(9, 9), 9, start, end, "k", v)
			other.Kind = kind
			more := other
			more.Key = "more"
			checkPlaces(t, "alone", s, list(other, more), nil, nil)
			checkPlaces(t, "ahead", s, list(other, more, m), shows("k", integer(1)), nil)
			checkPlaces(t, "behind", s, list(m, other, more), shows("k", integer(1)), nil)
		}
	}
}

func TestP11_2Nulls(t *testing.T) {
	s := row(t, a)
	one := integer(1)
	m := func(client, stamp uint64, v api.Value) api.Op { return mark(id(client, 1), stamp, start, end, "k", v) }
	for _, x := range []struct {
		what string
		l    []api.Op
		want []api.Mark
	}{
		{"null alone", list(m(1, 1, null)), nil},
		{"null over a value", list(m(1, 1, one), m(2, 2, null)), nil},
		{"a value over null", list(m(1, 1, null), m(2, 2, one)), shows("k", one)},
		{"an older null", list(m(2, 1, null), m(1, 2, one)), shows("k", one)},
		{"null over a value, by client", list(m(1, 1, one), m(2, 1, null)), nil},
		{"a value over null, by client", list(m(2, 1, one), m(1, 1, null)), shows("k", one)},
		{"null over two", list(m(1, 1, one), m(2, 2, one), m(3, 3, null)), nil},
		{"null between", list(m(1, 1, one), m(2, 2, null), m(3, 3, integer(2))), shows("k", integer(2))},
		{"no null: false, 0, an empty text", list(m(1, 1, one), mark(id(2, 1), 2, start, end, "a", boolean(0)), mark(id(2, 2), 2, start, end, "b", integer(0)), mark(id(2, 3), 2, start, end, "c", text(""))),
			shows("a", boolean(0), "b", integer(0), "c", text(""), "k", one)},
	} {
		permute(x.l, func(l []api.Op) { checkPlaces(t, x.what, s, l, x.want) })
	}
}

func TestP11_2Keys(t *testing.T) {
	s := row(t, a, b)
	keys := []string{"", "\x00", "A", "a", "a\x00", "aa", "ab", "b", "é", "\uFFFF", "\U00010000", "\xFF", "\xFFa"}
	var l []api.Op
	var want, half []api.Mark
	for i, key := range keys {
		m := mark(id(1, uint64(i+1)), uint64(len(keys)-i), start, end, key, integer(int64(i)))
		if i%2 == 0 {
			m.To = behind(a)
		} else {
			half = append(half, api.Mark{Key: key, V: m.V})
		}
		l = append(l, m)
		want = append(want, api.Mark{Key: key, V: m.V})
	}
	for range keys {
		l = append(l[1:], l[0])
		checkPlaces(t, "keys", s, l, want, half)
		slices.Reverse(l)
		checkPlaces(t, "keys", s, l, want, half)
		slices.Reverse(l)
	}
}

// TestP11_2Values: they are told as they came, but that there is one NaN.
func TestP11_2Values(t *testing.T) {
	s := row(t, a)
	l := []api.Value{
		boolean(0), boolean(1), integer(0), integer(-1), integer(math.MinInt64), integer(math.MaxInt64), integer(1<<53 + 1),
		float(0), float(math.Copysign(0, -1)), float(0.1), float(math.SmallestNonzeroFloat64), float(math.MaxFloat64), float(math.Inf(1)), float(math.Inf(-1)), floatOf(theNaN),
		text(""), text("a\x00\"é\U0001F600"), {Kind: api.ValMap},
		{Kind: -1}, {Kind: 6, N: 2}, {Kind: api.ValBool, N: 7, S: "x"}, text("\xFF"), // no values
	}
	for _, v := range l {
		checkPlaces(t, "a value", s, list(mark(id(1, 1), 1, start, end, "k", v)), shows("k", v))
	}
	for _, bits := range []uint64{theNaN + 1, math.Float64bits(math.NaN()), 0x7FF0000000000001, 0x7FFFFFFFFFFFFFFF, 0xFFF8000000000000, 0xFFF0000000000001, math.MaxUint64} {
		checkPlaces(t, "a NaN", s, list(mark(id(1, 1), 1, start, end, "k", floatOf(bits))), shows("k", floatOf(theNaN)))
	}
}

func TestP11_2AllOfNothing(t *testing.T) {
	l := list(mark(id(1, 1), 1, start, end, "k", integer(1)), mark(id(1, 2), 1, ahead(a), behind(a), "k", integer(1)))
	checkPlaces(t, "an empty sequence", seq.New(), l)
	checkPlaces(t, "an empty sequence, no marks", seq.New(), nil)
	checkPlaces(t, "no marks", row(t, a, b), nil, nil, nil)
}

// TestP11_2AllOfAsGood: of marks of one stamp and one id the first one counts (DOC.md, rule 7), by At and by All.
func TestP11_2AllOfAsGood(t *testing.T) {
	r := rand.New(rand.NewSource(1))
	s := row(t, a, b, c)
	for range 30 {
		l := drawMarks(r, s, 150)
		for i := range l {
			l[i].Id, l[i].V = id(1, 1), integer(int64(i))
		}
		checkModel(t, "as good", s, l)
	}
}

// TestP11_2AllOfMany: as many marks as an update has over many units, with few keys and with one each: many that are null, and many of the least ones, over nearly all.
func TestP11_2AllOfMany(t *testing.T) {
	const units, n = 1 << 18, api.MaxOps
	s := seq.New()
	s.Run(api.Unit{Id: id(1, 1)}, units)
	for _, keys := range []int{1, 7, n} {
		var l []api.Op
		for i := range uint64(n) {
			o := mark(id(2, 1+i), 1+i, ahead(id(1, 1+i)), behind(id(1, 1+i+i%5)), "", integer(int64(i)))
			o.Key = string([]rune{'a' + rune(i)%rune(keys)})
			switch {
			case i%4 == 1:
				o.V, o.To = null, behind(id(1, units-i))
			case keys < n && i%4 == 2:
				o.Stamp, o.From, o.To = 1, ahead(id(1, 1+i/2)), behind(id(1, units-i))
			}
			l = append(l, o)
		}
		all := marks.All(s, l)
		if len(all) != units {
			t.Fatalf("%d keys: of %d places", keys, len(all))
		}
		for place := 0; place < units; place += 1 + place/3 {
			if want := marks.At(s, l, place); !exactMarks(all[place], want) {
				t.Fatalf("%d keys, %d: %v, not %v", keys, place, all[place], want)
			}
		}
	}
}

func TestP11_3Same(t *testing.T) {
	minusZero := float(math.Copysign(0, -1))
	for _, x := range []struct {
		what string
		a, b []api.Mark
		want bool
	}{
		{"nil twice", nil, nil, true},
		{"nil and empty", nil, []api.Mark{}, true},
		{"nil and one", nil, shows("a", null), false},
		{"one", shows("a", integer(1)), shows("a", integer(1)), true},
		{"several", shows("a", integer(1), "b", text("x"), "c", boolean(0)), shows("a", integer(1), "b", text("x"), "c", boolean(0)), true},
		{"shorter", shows("a", integer(1), "b", text("x")), shows("a", integer(1)), false},
		{"shorter, at the front", shows("a", integer(1), "b", text("x")), shows("b", text("x")), false},
		{"unlike keys", shows("a", integer(1)), shows("b", integer(1)), false},
		{"unlike keys, at the end", shows("a", integer(1), "b", text("x")), shows("a", integer(1), "c", text("x")), false},
		{"unlike keys, by length", shows("a", integer(1)), shows("a\x00", integer(1)), false},
		{"unlike values", shows("a", integer(1)), shows("a", integer(2)), false},
		{"unlike values, at the end", shows("a", integer(1), "b", text("x")), shows("a", integer(1), "b", text("y")), false},
		{"unlike kinds", shows("a", integer(1)), shows("a", boolean(1)), false},
		{"unlike kinds of 1", shows("a", integer(1)), shows("a", float(1)), false},
		{"null and a text", shows("a", null), shows("a", text("")), false},
		{"nulls", shows("a", null), shows("a", null), true},
		{"maps", shows("a", api.Value{Kind: api.ValMap}), shows("a", api.Value{Kind: api.ValMap}), true},
		{"one NaN", shows("a", floatOf(theNaN)), shows("a", floatOf(theNaN)), true},
		{"NaNs of other bits", shows("a", floatOf(0x7FF0000000000001)), shows("a", floatOf(math.MaxUint64)), true},
		{"NaN and infinity", shows("a", floatOf(theNaN)), shows("a", float(math.Inf(1))), false},
		{"the noughts", shows("a", minusZero), shows("a", float(0)), false},
		{"-0 twice", shows("a", minusZero), shows("a", minusZero), true},
		{"0 twice", shows("a", float(0)), shows("a", float(0)), true},
		{"another order", shows("a", integer(1), "b", integer(1)), shows("b", integer(1), "a", integer(1)), false},
		{"another order of values", shows("a", integer(1), "b", integer(2)), shows("a", integer(2), "b", integer(1)), false},
		{"one key twice, another order", shows("a", integer(1), "a", integer(2)), shows("a", integer(2), "a", integer(1)), false},
	} {
		exact := func(a, b api.Mark) bool { return a.Key == b.Key && alike(a.V, b.V) }
		p, q := aside(t, x.a, exact), aside(t, x.b, exact)
		if marks.Same(p, q) != x.want || marks.Same(q, p) != x.want {
			t.Errorf("%s: not %v", x.what, x.want)
		}
		if !marks.Same(p, p) || !marks.Same(q, q) {
			t.Errorf("%s: one isn't the same as itself", x.what)
		}
	}
}
