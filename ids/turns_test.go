package ids_test

import (
	"fmt"
	"slices"
	"testing"

	"quire/api"
	"quire/ids"
)

func tn(client, from, to, n uint64) api.Turn {
	return api.Turn{Client: client, From: from, To: to, N: n}
}

// turns: a list of turns; none: nil.
func turns(l ...api.Turn) []api.Turn { return l }

func TestP6_2Turns(t *testing.T) {
	for _, x := range []struct {
		what    string
		l, want []api.Turn
	}{
		{"the chapter's", turns(tn(1, 1, 5, 1), tn(1, 3, 9, 2)), turns(tn(1, 1, 3, 1), tn(1, 3, 9, 2))},
		{"nil", nil, nil},
		{"empty", turns(), nil},
		{"one", turns(tn(1, 1, 2, 1)), turns(tn(1, 1, 2, 1))},
		{"the greatest of all", turns(tn(top, 1, top+1, top)), turns(tn(top, 1, top+1, top))},
		{"the greater one ahead", turns(tn(1, 1, 5, 2), tn(1, 3, 9, 1)), turns(tn(1, 1, 5, 2), tn(1, 5, 9, 1))},
		{"touching, alike", turns(tn(1, 1, 3, 7), tn(1, 3, 5, 7)), turns(tn(1, 1, 5, 7))},
		{"touching, alike, out of order", turns(tn(1, 3, 5, 7), tn(1, 1, 3, 7)), turns(tn(1, 1, 5, 7))},
		{"touching, unlike", turns(tn(1, 3, 5, 1), tn(1, 1, 3, 3)), turns(tn(1, 1, 3, 3), tn(1, 3, 5, 1))},
		{"apart, alike", turns(tn(1, 4, 5, 1), tn(1, 1, 3, 1)), turns(tn(1, 1, 3, 1), tn(1, 4, 5, 1))},
		{"overlapping, alike", turns(tn(1, 1, 4, 3), tn(1, 3, 5, 3)), turns(tn(1, 1, 5, 3))},
		{"within, greater", turns(tn(1, 1, 9, 1), tn(1, 3, 4, 2)), turns(tn(1, 1, 3, 1), tn(1, 3, 4, 2), tn(1, 4, 9, 1))},
		{"within, smaller", turns(tn(1, 1, 9, 2), tn(1, 3, 4, 1)), turns(tn(1, 1, 9, 2))},
		{"within, alike", turns(tn(1, 3, 4, 2), tn(1, 1, 9, 2)), turns(tn(1, 1, 9, 2))},
		{"doubled", turns(tn(1, 3, 4, 2), tn(1, 3, 4, 2)), turns(tn(1, 3, 4, 2))},
		{"one range, unlike", turns(tn(1, 3, 4, 2), tn(1, 3, 4, 5), tn(1, 3, 4, 3)), turns(tn(1, 3, 4, 5))},
		{"one start", turns(tn(1, 1, 9, 1), tn(1, 1, 5, 2), tn(1, 1, 3, 3)), turns(tn(1, 1, 3, 3), tn(1, 3, 5, 2), tn(1, 5, 9, 1))},
		{"one end", turns(tn(1, 1, 9, 1), tn(1, 5, 9, 2), tn(1, 7, 9, 3)), turns(tn(1, 1, 5, 1), tn(1, 5, 7, 2), tn(1, 7, 9, 3))},
		{"covered in parts", turns(tn(1, 1, 9, 1), tn(1, 1, 4, 2), tn(1, 4, 9, 2)), turns(tn(1, 1, 9, 2))},
		{"of clients", turns(tn(2, 1, 3, 4), tn(1, 5, 6, 1), tn(1, 1, 5, 1), tn(2, 3, 4, 4)), turns(tn(1, 1, 6, 1), tn(2, 1, 4, 4))},
		{"one client's end, another's start", turns(tn(2, 5, 7, 1), tn(1, 1, 5, 1)), turns(tn(1, 1, 5, 1), tn(2, 5, 7, 1))},
		{"the last id", turns(tn(1, top, top+1, 1), tn(1, 1, top, 1)), turns(tn(1, 1, top+1, 1))},
	} {
		checkTurns(t, x.what, ids.Turns(aside(t, x.l)), x.want)
		for at := range x.l {
			checkTurns(t, x.what+", of two lists", ids.JoinTurns(aside(t, x.l[:at]), aside(t, x.l[at:])), x.want)
		}
	}
}

func TestP6_2WrongTurnsSayNothing(t *testing.T) {
	wrong := turns(tn(1, 1, 5, 0), tn(1, 1, 5, top+1), tn(1, 1, 5, 1<<64-1))
	for _, r := range wrongRanges() {
		wrong = append(wrong, tn(r.Client, r.From, r.To, 5))
	}
	right := turns(tn(1, 7, 9, 2), tn(2, 1, 3, 1))
	for _, r := range wrong {
		for at := range len(right) + 1 {
			what := fmt.Sprint(r, " at ", at)
			l := aside(t, slices.Insert(slices.Clone(right), at, r))
			checkTurns(t, "Turns, "+what, ids.Turns(l), right)
			checkTurns(t, "JoinTurns, "+what, ids.JoinTurns(turns(r), l), right)
			checkTurns(t, "Above, "+what, ids.Above(l, turns(r)), right)
			checkTurns(t, "Above of "+what, ids.Above(turns(r), l), nil)
			checkRanges(t, "Hidden, "+what, ids.Hidden(l), set(rg(2, 1, 3)))
			for _, x := range []api.Id{id(r.Client, r.From), id(r.Client, 1), id(r.Client, r.To-1), id(1, 4)} {
				if n := ids.TurnOf(l, x); n != 0 {
					t.Errorf("TurnOf %v, %s: %d", x, what, n)
				}
			}
		}
	}
}

func TestP6_2TurnOf(t *testing.T) {
	l := turns(tn(1, 3, 5, 1), tn(2, 1, 2, top), tn(1, 4, 6, 2), tn(1, 4, 5, 1), tn(3, top, top+1, 3))
	for _, x := range []struct {
		id   api.Id
		want uint64
	}{
		{id(1, 2), 0}, {id(1, 3), 1}, {id(1, 4), 2}, {id(1, 5), 2}, {id(1, 6), 0}, {id(2, 1), top}, {id(2, 2), 0}, {id(4, 3), 0},
		{id(3, top-1), 0}, {id(3, top), 3}, {id(3, top+1), 0}, {id(0, 0), 0}, {id(0, 3), 0}, {id(1, 0), 0}, {id(top+1, 3), 0},
	} {
		if got := ids.TurnOf(l, x.id); got != x.want {
			t.Errorf("TurnOf %v: %d, not %d", x.id, got, x.want)
		}
	}
	if ids.TurnOf(nil, id(1, 1)) != 0 || ids.TurnOf(turns(), id(1, 1)) != 0 {
		t.Error("an empty list tells a turn")
	}
}

func TestP6_2Above(t *testing.T) {
	for _, x := range []struct {
		what       string
		a, b, want []api.Turn
	}{
		{"nothing", nil, turns(), nil},
		{"above nothing", turns(tn(1, 3, 5, 2), tn(1, 1, 3, 2)), nil, turns(tn(1, 1, 5, 2))},
		{"nothing above", nil, turns(tn(1, 1, 5, 2)), nil},
		{"the same", turns(tn(1, 1, 5, 2)), turns(tn(1, 1, 5, 2)), nil},
		{"the same in parts", turns(tn(1, 1, 5, 2)), turns(tn(1, 3, 5, 2), tn(1, 1, 3, 2)), nil},
		{"greater", turns(tn(1, 1, 5, 3)), turns(tn(1, 1, 5, 2)), turns(tn(1, 1, 5, 3))},
		{"smaller", turns(tn(1, 1, 5, 2)), turns(tn(1, 1, 5, 3)), nil},
		{"another client's", turns(tn(1, 1, 5, 2)), turns(tn(2, 1, 5, 9)), turns(tn(1, 1, 5, 2))},
		{"a part of it the same", turns(tn(1, 1, 9, 2)), turns(tn(1, 3, 4, 2)), turns(tn(1, 1, 3, 2), tn(1, 4, 9, 2))},
		{"a part of it smaller", turns(tn(1, 1, 9, 2)), turns(tn(1, 3, 4, 1)), turns(tn(1, 1, 9, 2))},
		{"all of it", turns(tn(1, 1, 9, 2)), turns(tn(1, 3, 4, 2), tn(1, 5, 6, 1), tn(1, 8, 20, 7), tn(2, 1, 9, 1)), turns(tn(1, 1, 3, 2), tn(1, 4, 8, 2))},
		{"by the greatest of each", turns(tn(1, 1, 9, 2), tn(1, 1, 9, 4)), turns(tn(1, 1, 5, 3), tn(1, 1, 5, 5)), turns(tn(1, 5, 9, 4))},
		{"at the top", turns(tn(top, top, top+1, top)), turns(tn(top, top, top+1, top-1)), turns(tn(top, top, top+1, top))},
	} {
		checkTurns(t, x.what, ids.Above(aside(t, x.a), aside(t, x.b)), x.want)
	}
}

func TestP6_2Hidden(t *testing.T) {
	for _, x := range []struct {
		what string
		l    []api.Turn
		want []api.Range
	}{
		{"nil", nil, nil},
		{"empty", turns(), nil},
		{"once", turns(tn(1, 1, 5, 1)), set(rg(1, 1, 5))},
		{"twice", turns(tn(1, 1, 5, 2)), nil},
		{"most often", turns(tn(top, 1, top+1, top), tn(1, 1, 2, top-1)), set(rg(top, 1, top+1))},
		{"odd ones that touch", turns(tn(1, 1, 5, 1), tn(1, 5, 7, 3), tn(1, 7, 9, 5)), set(rg(1, 1, 9))},
		{"one within, shown", turns(tn(1, 1, 9, 1), tn(1, 3, 4, 2)), set(rg(1, 1, 3), rg(1, 4, 9))},
		{"one within, hidden anew", turns(tn(1, 1, 9, 1), tn(1, 3, 4, 3)), set(rg(1, 1, 9))},
		{"one within, turned less often", turns(tn(1, 1, 9, 2), tn(1, 3, 4, 1)), nil},
		{"by clients", turns(tn(2, 1, 5, 1), tn(1, 5, 7, 3), tn(1, 1, 5, 2)), set(rg(1, 5, 7), rg(2, 1, 5))},
	} {
		checkRanges(t, x.what, ids.Hidden(aside(t, x.l)), x.want)
	}
}

func TestP6_2NothingIsKept(t *testing.T) {
	want := turns(tn(1, 1, 3, 1), tn(2, 1, 2, 3))
	in := slices.Clone(want)
	for _, out := range [][]api.Turn{ids.Turns(in), ids.JoinTurns(in, nil), ids.JoinTurns(nil, in), ids.JoinTurns(in, in), ids.Above(in, nil)} {
		checkTurns(t, "answered", out, want)
		out[0].N = 9
		_ = append(out[:1], tn(9, 9, 10, 9))
		checkTurns(t, "what was handed in", in, want)
	}
}

func TestP6_2ManyTurns(t *testing.T) {
	const many = 1 << 17
	var nested, want []api.Turn
	for i := uint64(1); i <= many; i++ { // each within all ahead of it, and above them
		nested = append(nested, tn(1, i, 2*many+2-i, i))
	}
	for i := uint64(1); i < many; i++ {
		want = append(want, tn(1, i, i+1, i))
	}
	want = append(want, tn(1, many, many+2, many))
	for i := uint64(many - 1); i >= 1; i-- {
		want = append(want, tn(1, 2*many+1-i, 2*many+2-i, i))
	}
	checkTurns(t, "nested", ids.Turns(nested), want)
	slices.Reverse(nested)
	checkTurns(t, "nested, reversed", ids.Turns(nested), want)
	checkTurns(t, "above themselves", ids.Above(nested, want), nil)
}
