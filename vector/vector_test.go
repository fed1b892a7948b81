package vector_test

import (
	"fmt"
	"math"
	"slices"
	"testing"

	"quire/api"
	"quire/vector"
)

func id(client, clock uint64) api.Id { return api.Id{Client: client, Clock: clock} }

func ck(client, clock uint64) api.Clock { return api.Clock{Client: client, Clock: clock} }

func rg(client, from, to uint64) api.Range { return api.Range{Client: client, From: from, To: to} }

// vec: a vector; none: nil.
func vec(l ...api.Clock) []api.Clock { return l }

// set: a list of ranges; none: nil.
func set(l ...api.Range) []api.Range { return l }

func TestP7_1Clean(t *testing.T) {
	for _, x := range []struct {
		what    string
		l, want []api.Clock
	}{
		{"nil", nil, nil},
		{"empty", []api.Clock{}, nil},
		{"one", vec(ck(1, 1)), vec(ck(1, 1))},
		{"in order", vec(ck(1, 3), ck(2, 2), ck(9, 1)), vec(ck(1, 3), ck(2, 2), ck(9, 1))},
		{"out of order", vec(ck(9, 1), ck(1, 3), ck(2, 2)), vec(ck(1, 3), ck(2, 2), ck(9, 1))},
		{"twice, the greater first", vec(ck(5, 9), ck(5, 2)), vec(ck(5, 9))},
		{"twice, the lesser first", vec(ck(5, 2), ck(5, 9)), vec(ck(5, 9))},
		{"twice, the greater first, others between", vec(ck(5, 9), ck(7, 1), ck(1, 1), ck(5, 2)), vec(ck(1, 1), ck(5, 9), ck(7, 1))},
		{"twice, the lesser first, others between", vec(ck(5, 2), ck(7, 1), ck(1, 1), ck(5, 9)), vec(ck(1, 1), ck(5, 9), ck(7, 1))},
		{"twice, alike", vec(ck(5, 2), ck(5, 2)), vec(ck(5, 2))},
		{"thrice, the greatest between", vec(ck(5, 2), ck(5, 9), ck(5, 3)), vec(ck(5, 9))},
		{"client 0", vec(ck(0, 4), ck(1, 4)), vec(ck(1, 4))},
		{"client MaxId", vec(ck(top, 4), ck(1, 4)), vec(ck(1, 4), ck(top, 4))},
		{"client MaxId + 1", vec(ck(top+1, 4), ck(top, 4)), vec(ck(top, 4))},
		{"the last number as a client", vec(ck(math.MaxUint64, 4)), nil},
		{"clock 0", vec(ck(1, 0), ck(2, 1)), vec(ck(2, 1))},
		{"clock 0 and a greater one", vec(ck(1, 0), ck(1, 1), ck(1, 0)), vec(ck(1, 1))},
		{"clock MaxId", vec(ck(1, top)), vec(ck(1, top))},
		{"clock MaxId + 1", vec(ck(1, top+1)), vec(ck(1, top))},
		{"the last number as a clock", vec(ck(1, math.MaxUint64)), vec(ck(1, top))},
		{"clocks above MaxId and below", vec(ck(1, 3), ck(1, top+7), ck(1, 5)), vec(ck(1, top))},
		{"a wrong client, a clock above MaxId", vec(ck(0, top+1), ck(top+1, top+1)), nil},
	} {
		checkClocks(t, x.what, vector.Clean(aside(t, x.l)), x.want)
	}
}

func TestP7_1At(t *testing.T) {
	l := aside(t, vec(ck(5, 2), ck(1, 3), ck(5, 9), ck(5, 4), ck(0, 4), ck(top+1, 6), ck(7, 0), ck(9, top+5), ck(top, 1), ck(math.MaxUint64, 2)))
	for _, x := range []struct{ client, want uint64 }{
		{1, 3}, {5, 9}, {9, top}, {top, 1}, {7, 0}, {2, 0}, {0, 0}, {top + 1, 0}, {math.MaxUint64, 0},
	} {
		if got := vector.At(l, x.client); got != x.want {
			t.Errorf("At %d: %d, not %d", x.client, got, x.want)
		}
		if vector.At(nil, x.client) != 0 || vector.At([]api.Clock{}, x.client) != 0 {
			t.Errorf("an empty vector knows clocks of %d", x.client)
		}
	}
}

func TestP7_1Has(t *testing.T) {
	l := aside(t, vec(ck(5, 2), ck(1, 3), ck(5, 9), ck(0, 4), ck(top+1, 6), ck(7, 0), ck(9, top+5), ck(top, 1)))
	for _, x := range []struct {
		id   api.Id
		want bool
	}{
		{id(1, 1), true}, {id(1, 3), true}, {id(1, 4), false}, {id(1, 0), false},
		{id(5, 3), true}, {id(5, 9), true}, {id(5, 10), false},
		{id(9, 1), true}, {id(9, top), true}, {id(9, top+1), false}, {id(9, top+5), false}, {id(9, math.MaxUint64), false}, {id(9, 0), false},
		{id(top, 1), true}, {id(top, 2), false}, {id(7, 1), false}, {id(7, 0), false}, {id(2, 1), false}, {id(2, 0), false},
		{id(0, 0), false}, {id(0, 1), false}, {id(0, 4), false}, {id(top+1, 1), false}, {id(top+1, 0), false},
	} {
		if got := vector.Has(l, x.id); got != x.want {
			t.Errorf("Has %v: %v", x.id, got)
		}
		if vector.Has(nil, x.id) || vector.Has([]api.Clock{}, x.id) {
			t.Errorf("an empty vector knows %v", x.id)
		}
	}
}

// twoVectors: two of them, and what the calls on both answer: Join, Meet, Within, and Missing of a for b.
type twoVectors struct {
	what             string
	a, b, join, meet []api.Clock
	within           bool
	missing          []api.Range
}

func pairs() []twoVectors {
	return []twoVectors{
		{"the chapter's", vec(ck(1, 3)), vec(ck(1, 5), ck(2, 1)), vec(ck(1, 5), ck(2, 1)), vec(ck(1, 3)), true, set(rg(1, 4, 6), rg(2, 1, 2))},
		{"the chapter's, turned", vec(ck(1, 5), ck(2, 1)), vec(ck(1, 3)), vec(ck(1, 5), ck(2, 1)), vec(ck(1, 3)), false, nil},
		{"nil and nil", nil, nil, nil, nil, true, nil},
		{"nil and empty", nil, []api.Clock{}, nil, nil, true, nil},
		{"empty and one", []api.Clock{}, vec(ck(1, 3)), vec(ck(1, 3)), nil, true, set(rg(1, 1, 4))},
		{"one and nil", vec(ck(1, 3)), nil, vec(ck(1, 3)), nil, false, nil},
		{"alike", vec(ck(1, 3), ck(2, 2)), vec(ck(1, 3), ck(2, 2)), vec(ck(1, 3), ck(2, 2)), vec(ck(1, 3), ck(2, 2)), true, nil},
		{"alike, told otherwise", vec(ck(2, 2), ck(1, 3)), vec(ck(1, 1), ck(2, 2), ck(0, 7), ck(1, 3), ck(3, 0)), vec(ck(1, 3), ck(2, 2)), vec(ck(1, 3), ck(2, 2)), true, nil},
		{"beside, by clients", vec(ck(1, 3)), vec(ck(2, 2)), vec(ck(1, 3), ck(2, 2)), nil, false, set(rg(2, 1, 3))},
		{"beside, by clocks", vec(ck(1, 3), ck(2, 5)), vec(ck(1, 4), ck(2, 2)), vec(ck(1, 4), ck(2, 5)), vec(ck(1, 3), ck(2, 2)), false, set(rg(1, 4, 5))},
		{"each lacks one", vec(ck(1, 3), ck(2, 2)), vec(ck(1, 5), ck(3, 1)), vec(ck(1, 5), ck(2, 2), ck(3, 1)), vec(ck(1, 3)), false, set(rg(1, 4, 6), rg(3, 1, 2))},
		{"one lacks the first", vec(ck(2, 2)), vec(ck(1, 1), ck(2, 2)), vec(ck(1, 1), ck(2, 2)), vec(ck(2, 2)), true, set(rg(1, 1, 2))},
		{"one lacks the last", vec(ck(1, 1)), vec(ck(1, 1), ck(2, 2)), vec(ck(1, 1), ck(2, 2)), vec(ck(1, 1)), true, set(rg(2, 1, 3))},
		{"one less", vec(ck(1, 4)), vec(ck(1, 5)), vec(ck(1, 5)), vec(ck(1, 4)), true, set(rg(1, 5, 6))},
		{"one more", vec(ck(1, 6)), vec(ck(1, 5)), vec(ck(1, 6)), vec(ck(1, 5)), false, nil},
		{"by the greatest of each", vec(ck(1, 6), ck(1, 2)), vec(ck(1, 3), ck(1, 5)), vec(ck(1, 6)), vec(ck(1, 5)), false, nil},
		{"wrong ones know nothing", vec(ck(0, 6), ck(top+1, 2), ck(3, 0)), nil, nil, nil, true, nil},
		{"wrong ones are known by none", nil, vec(ck(0, 6), ck(top+1, 2), ck(3, 0)), nil, nil, true, nil},
		{"all but the last clock", vec(ck(top, top-1)), vec(ck(top, top)), vec(ck(top, top)), vec(ck(top, top-1)), true, set(rg(top, top, top+1))},
		{"all clocks and beyond", vec(ck(top, top)), vec(ck(top, top+9)), vec(ck(top, top)), vec(ck(top, top)), true, nil},
		{"beyond all clocks", vec(ck(top, math.MaxUint64)), vec(ck(top, top)), vec(ck(top, top)), vec(ck(top, top)), true, nil},
	}
}

func TestP7_1JoinMeetWithinMissing(t *testing.T) {
	for _, x := range pairs() {
		a, b := aside(t, x.a), aside(t, x.b)
		checkClocks(t, "Join, "+x.what, vector.Join(a, b), x.join)
		checkClocks(t, "Join turned, "+x.what, vector.Join(b, a), x.join)
		checkClocks(t, "Meet, "+x.what, vector.Meet(a, b), x.meet)
		checkClocks(t, "Meet turned, "+x.what, vector.Meet(b, a), x.meet)
		checkRanges(t, "Missing, "+x.what, vector.Missing(a, b), x.missing)
		if got := vector.Within(a, b); got != x.within {
			t.Errorf("Within, %s: %v", x.what, got)
		}
	}
}

func TestP7_1Ranges(t *testing.T) {
	for _, x := range []struct {
		l    []api.Clock
		want []api.Range
	}{
		{nil, nil},
		{[]api.Clock{}, nil},
		{vec(ck(1, 1)), set(rg(1, 1, 2))},
		{vec(ck(2, 2), ck(1, 3)), set(rg(1, 1, 4), rg(2, 1, 3))},
		{vec(ck(1, 2), ck(1, 5), ck(1, 3)), set(rg(1, 1, 6))},
		{vec(ck(1, top)), set(rg(1, 1, top+1))},
		{vec(ck(top, math.MaxUint64)), set(rg(top, 1, top+1))},
		{vec(ck(0, 1), ck(top+1, 1), ck(1, 0)), nil},
	} {
		checkRanges(t, fmt.Sprint(x.l), vector.Ranges(aside(t, x.l)), x.want)
	}
}

func TestP7_1NothingIsKept(t *testing.T) {
	was := vec(ck(1, 3), ck(2, 2))
	in := slices.Clone(was)
	for i, out := range [][]api.Clock{vector.Clean(in), vector.Join(in, nil), vector.Join(nil, in), vector.Meet(in, in)} {
		checkClocks(t, fmt.Sprint("answer ", i), out, was)
		in[0].Clock = 7
		checkClocks(t, fmt.Sprint("answer ", i, " hangs on what was handed in"), out, was)
		in[0].Clock = 3
		out[0].Clock = 9
		_ = append(out[:1], ck(8, 8))
		checkClocks(t, fmt.Sprint("what was handed in hangs on answer ", i), in, was)
	}
}

func TestP7_1ManyClients(t *testing.T) {
	const many = 1 << 16
	var odd, even, all []api.Clock
	var ranges []api.Range
	for i := uint64(many); i >= 1; i-- {
		odd, even = append(odd, ck(2*i-1, 5)), append(even, ck(2*i, 5))
	}
	for i := uint64(1); i <= 2*many; i++ {
		all, ranges = append(all, ck(i, 5)), append(ranges, rg(i, 1, 6))
	}
	checkClocks(t, "Join", vector.Join(even, odd), all)
	checkClocks(t, "Meet", vector.Meet(even, odd), nil)
	checkClocks(t, "Meet with all", vector.Meet(all, odd), vector.Clean(odd))
	checkRanges(t, "Missing", vector.Missing(nil, all), ranges)
	if vector.Within(odd, even) || !vector.Within(odd, all) || vector.Within(all, odd) {
		t.Error("Within")
	}
}
