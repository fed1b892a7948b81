package ids_test

import (
	"fmt"
	"slices"
	"testing"

	"quire/api"
	"quire/ids"
)

func id(client, clock uint64) api.Id { return api.Id{Client: client, Clock: clock} }

func rg(client, from, to uint64) api.Range { return api.Range{Client: client, From: from, To: to} }

// set: a list of ranges; none: nil.
func set(l ...api.Range) []api.Range { return l }

func TestP6_1Right(t *testing.T) {
	right := []uint64{1, 2, 1 << 32, top - 1, top}
	wrong := []uint64{0, top + 1, top + 2, 1 << 63, 1<<64 - 1}
	for _, a := range right {
		for _, b := range right {
			if !ids.Right(id(a, b)) {
				t.Errorf("%d, %d isn't right", a, b)
			}
		}
		for _, b := range wrong {
			if ids.Right(id(a, b)) || ids.Right(id(b, a)) || ids.Right(id(b, b)) {
				t.Errorf("%d, %d is right", a, b)
			}
		}
	}
}

func TestP6_1Less(t *testing.T) {
	inOrder := []api.Id{id(0, 0), id(0, 1), id(0, 1<<64-1), id(1, 0), id(1, 1), id(1, 2), id(1, top), id(1, top+1), id(2, 0), id(2, 1), id(top, 1), id(top, top), id(top+1, 0), id(1<<64-1, 1<<64-1)}
	for i, a := range inOrder {
		for j, b := range inOrder {
			if got := ids.Less(a, b); got != (i < j) {
				t.Errorf("Less(%v, %v): %v", a, b, got)
			}
		}
	}
}

func TestP6_1Clean(t *testing.T) {
	for _, x := range []struct {
		what    string
		l, want []api.Range
	}{
		{"the chapter's", set(rg(1, 5, 7), rg(1, 3, 5)), set(rg(1, 3, 7))},
		{"nil", nil, nil},
		{"empty", set(), nil},
		{"one", set(rg(1, 3, 4)), set(rg(1, 3, 4))},
		{"apart", set(rg(1, 6, 7), rg(1, 3, 5)), set(rg(1, 3, 5), rg(1, 6, 7))},
		{"overlapping", set(rg(1, 3, 6), rg(1, 5, 8)), set(rg(1, 3, 8))},
		{"within", set(rg(1, 1, 9), rg(1, 3, 4), rg(1, 9, 10)), set(rg(1, 1, 10))},
		{"one start", set(rg(1, 1, 3), rg(1, 1, 9), rg(1, 1, 5)), set(rg(1, 1, 9))},
		{"doubled", set(rg(1, 3, 5), rg(1, 3, 5), rg(1, 3, 5)), set(rg(1, 3, 5))},
		{"bridged", set(rg(1, 1, 3), rg(1, 5, 7), rg(1, 3, 5)), set(rg(1, 1, 7))},
		{"of clients", set(rg(2, 3, 5), rg(1, 5, 7), rg(2, 1, 3), rg(1, 1, 2)), set(rg(1, 1, 2), rg(1, 5, 7), rg(2, 1, 5))},
		{"one client's end, another's start", set(rg(1, 1, 5), rg(2, 5, 7)), set(rg(1, 1, 5), rg(2, 5, 7))},
		{"all", set(rg(1, 1, top+1)), set(rg(1, 1, top+1))},
		{"all in two", set(rg(top, 7, top+1), rg(top, 1, 7)), set(rg(top, 1, top+1))},
		{"the last", set(rg(top, top, top+1)), set(rg(top, top, top+1))},
	} {
		checkRanges(t, x.what, ids.Clean(aside(t, x.l)), x.want)
	}
}

// wrongRanges: ranges that aren't right, each by one number.
func wrongRanges() []api.Range {
	return set(rg(0, 1, 5), rg(top+1, 1, 5), rg(1<<64-1, 1, 5), rg(1, 0, 5), rg(1, 5, 5), rg(1, 6, 5), rg(1, 1, top+2), rg(1, 1, 1<<64-1), rg(1, top+1, top+1), rg(1, top+1, top+2), rg(1, 1, 0), rg(0, 0, 0))
}

func TestP6_1WrongRangesSayNothing(t *testing.T) {
	right := set(rg(1, 7, 9), rg(2, 1, 3))
	for _, r := range wrongRanges() {
		for at := range len(right) + 1 {
			what := fmt.Sprint(r, " at ", at)
			l := aside(t, slices.Insert(slices.Clone(right), at, r))
			checkRanges(t, "Clean, "+what, ids.Clean(l), right)
			checkRanges(t, "Join, "+what, ids.Join(l, set(r)), right)
			checkRanges(t, "Meet, "+what, ids.Meet(l, l), right)
			checkRanges(t, "Minus, "+what, ids.Minus(right, set(r)), right)
			checkRanges(t, "Minus of "+what, ids.Minus(l, right), nil)
			if n := ids.Count(l); n != 4 {
				t.Errorf("Count, %s: %d", what, n)
			}
			for _, x := range []api.Id{id(r.Client, r.From), id(r.Client, 1), id(r.Client, r.To-1), id(1, 5)} {
				if ids.Has(l, x) {
					t.Errorf("Has %v, %s", x, what)
				}
			}
			if got := slices.Collect(ids.All(l)); !slices.Equal(got, []api.Id{id(1, 7), id(1, 8), id(2, 1), id(2, 2)}) {
				t.Errorf("All, %s: %v", what, got)
			}
		}
	}
}

func TestP6_1Has(t *testing.T) {
	l := set(rg(1, 3, 5), rg(2, 1, 2), rg(1, 8, 9), rg(3, top, top+1), rg(1, 4, 6))
	for _, x := range []struct {
		id   api.Id
		want bool
	}{
		{id(1, 2), false}, {id(1, 3), true}, {id(1, 5), true}, {id(1, 6), false}, {id(1, 7), false}, {id(1, 8), true}, {id(1, 9), false},
		{id(2, 1), true}, {id(2, 2), false}, {id(2, 0), false}, {id(0, 1), false}, {id(4, 1), false},
		{id(3, top-1), false}, {id(3, top), true}, {id(3, top+1), false}, {id(0, 0), false},
	} {
		if got := ids.Has(l, x.id); got != x.want {
			t.Errorf("Has %v: %v", x.id, got)
		}
	}
	if ids.Has(nil, id(1, 1)) || ids.Has(set(), id(1, 1)) {
		t.Error("an empty set has an id")
	}
}

func TestP6_1JoinMeetMinus(t *testing.T) {
	for _, x := range []struct{ a, b, join, meet, minus []api.Range }{
		{set(rg(1, 1, 9)), set(rg(1, 3, 4)), set(rg(1, 1, 9)), set(rg(1, 3, 4)), set(rg(1, 1, 3), rg(1, 4, 9))}, // the chapter's
		{nil, nil, nil, nil, nil},
		{set(), nil, nil, nil, nil},
		{set(rg(1, 1, 9)), nil, set(rg(1, 1, 9)), nil, set(rg(1, 1, 9))},
		{nil, set(rg(1, 1, 9)), set(rg(1, 1, 9)), nil, nil},
		{set(rg(1, 3, 4)), set(rg(1, 1, 9)), set(rg(1, 1, 9)), set(rg(1, 3, 4)), nil},
		{set(rg(1, 1, 9)), set(rg(1, 1, 9)), set(rg(1, 1, 9)), set(rg(1, 1, 9)), nil},
		{set(rg(1, 1, 5)), set(rg(1, 5, 9)), set(rg(1, 1, 9)), nil, set(rg(1, 1, 5))}, // they touch
		{set(rg(1, 1, 5)), set(rg(1, 6, 9)), set(rg(1, 1, 5), rg(1, 6, 9)), nil, set(rg(1, 1, 5))},
		{set(rg(1, 1, 5)), set(rg(1, 4, 9)), set(rg(1, 1, 9)), set(rg(1, 4, 5)), set(rg(1, 1, 4))},
		{set(rg(1, 4, 9)), set(rg(1, 1, 5)), set(rg(1, 1, 9)), set(rg(1, 4, 5)), set(rg(1, 5, 9))},
		{set(rg(1, 1, 5)), set(rg(2, 1, 5)), set(rg(1, 1, 5), rg(2, 1, 5)), nil, set(rg(1, 1, 5))},
		{set(rg(2, 1, 5)), set(rg(1, 1, 5)), set(rg(1, 1, 5), rg(2, 1, 5)), nil, set(rg(2, 1, 5))},
		{set(rg(1, 1, 3), rg(1, 5, 7)), set(rg(1, 3, 5)), set(rg(1, 1, 7)), nil, set(rg(1, 1, 3), rg(1, 5, 7))},
		{set(rg(1, 5, 9), rg(1, 1, 5)), set(rg(1, 7, 8), rg(1, 2, 3), rg(1, 7, 8)), set(rg(1, 1, 9)), set(rg(1, 2, 3), rg(1, 7, 8)), set(rg(1, 1, 2), rg(1, 3, 7), rg(1, 8, 9))},
		{set(rg(top, 1, top+1)), set(rg(top, top, top+1)), set(rg(top, 1, top+1)), set(rg(top, top, top+1)), set(rg(top, 1, top))},
	} {
		a, b := aside(t, x.a), aside(t, x.b)
		what := fmt.Sprint(a, b)
		checkRanges(t, "Join "+what, ids.Join(a, b), x.join)
		checkRanges(t, "Meet "+what, ids.Meet(a, b), x.meet)
		checkRanges(t, "Minus "+what, ids.Minus(a, b), x.minus)
	}
}

func TestP6_1Count(t *testing.T) {
	for _, x := range []struct {
		l    []api.Range
		want uint64
	}{
		{nil, 0}, {set(), 0}, {set(rg(1, 1, 2)), 1}, {set(rg(1, 3, 7), rg(1, 3, 7)), 4}, {set(rg(1, 3, 7), rg(1, 5, 9), rg(2, 3, 7)), 10},
		{set(rg(1, 1, top+1)), top}, {set(rg(1, 1, top+1), rg(1, 2, 3), rg(2, 1, top+1)), 2 * top},
	} {
		if got := ids.Count(x.l); got != x.want {
			t.Errorf("Count %v: %d, not %d", x.l, got, x.want)
		}
	}
}

func TestP6_1AllIsLeftAnywhereAndGoneThroughAgain(t *testing.T) {
	l := set(rg(2, 1, 3), rg(1, 5, 6), rg(1, 3, 4), rg(1, 3, 4), rg(2, top, top+1))
	want := []api.Id{id(1, 3), id(1, 5), id(2, 1), id(2, 2), id(2, top)}
	all := ids.All(aside(t, l))
	for left := 1; left <= len(want)+1; left++ {
		var got []api.Id
		for x := range all {
			if got = append(got, x); len(got) == left {
				break
			}
		}
		if part := want[:min(left, len(want))]; !slices.Equal(got, part) {
			t.Errorf("left behind %d: %v, not %v", left, got, part)
		}
	}
	var inner int
	for range all { // one way within another
		for range all {
			inner++
		}
	}
	if inner != len(want)*len(want) {
		t.Errorf("%d ids by ways within ways", inner)
	}
	for _, l := range [][]api.Range{nil, set(), wrongRanges()} {
		if got := slices.Collect(ids.All(l)); len(got) != 0 {
			t.Errorf("All %v: %v", l, got)
		}
	}
}

func TestP6_1AllTakesNoMoreThanItIsAskedFor(t *testing.T) {
	n := uint64(0)
	for x := range ids.All(set(rg(1, 1, top+1), rg(2, 1, top+1))) {
		if n++; x != id(1, n) {
			t.Fatalf("%v, not %d", x, n)
		}
		if n == 1000 {
			break
		}
	}
	ids.All(set(rg(1, top, top+1)))(func(x api.Id) bool {
		if x != id(1, top) {
			t.Errorf("%v", x)
		}
		return true
	})
}

func TestP6_1NothingIsKept(t *testing.T) {
	l := set(rg(1, 1, 3), rg(2, 1, 2))
	all, clean := ids.All(l), ids.Clean(l)
	l[0], l[1] = rg(7, 7, 8), rg(8, 8, 9)
	if got := slices.Collect(all); !slices.Equal(got, []api.Id{id(1, 1), id(1, 2), id(2, 1)}) {
		t.Errorf("All hangs on what was handed in: %v", got)
	}
	checkRanges(t, "Clean hangs on what was handed in", clean, set(rg(1, 1, 3), rg(2, 1, 2)))
	in := set(rg(1, 1, 3), rg(2, 1, 2))
	for _, out := range [][]api.Range{ids.Clean(in), ids.Join(in, nil), ids.Join(nil, in), ids.Meet(in, in), ids.Minus(in, nil)} {
		checkRanges(t, "answered", out, in)
		out[0].From = 9
		_ = append(out[:1], rg(9, 9, 10))
		checkRanges(t, "what was handed in", in, set(rg(1, 1, 3), rg(2, 1, 2)))
	}
}

func TestP6_1ManyRanges(t *testing.T) {
	const many = 1 << 17
	var odd, even []api.Range
	for i := uint64(many); i >= 1; i-- {
		odd, even = append(odd, rg(1, 2*i-1, 2*i)), append(even, rg(1, 2*i, 2*i+1))
	}
	checkRanges(t, "Join", ids.Join(odd, even), set(rg(1, 1, 2*many+1)))
	checkRanges(t, "Meet", ids.Meet(odd, even), nil)
	checkRanges(t, "Minus", ids.Minus(set(rg(1, 1, 2*many+1)), odd), ids.Clean(even))
	if n := ids.Count(odd); n != many {
		t.Errorf("Count: %d", n)
	}
}
