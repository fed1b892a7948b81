package update_test

import (
	"math/rand"
	"slices"
	"strings"
	"testing"

	"quire/api"
	"quire/ops"
)

// stretch: of one long row of a client the runes from one clock on below another one, without a Right; each rune by its clock, so that all stretches are alike where they overlap.
func stretch(client, from, to uint64) api.Op {
	var s strings.Builder
	for n := from; n < to; n++ {
		s.WriteRune([]rune("aébcdefghijklmnopq\U0001F600rst")[n%22])
	}
	return at(client, from, s.String())
}

func leftOf(o api.Op, left api.Id) api.Op {
	o.Left = left
	return o
}

func rightOf(o api.Op, right api.Id) api.Op {
	o.Right = right
	return o
}

// checkBack: Clean of u must have these operations, and Read of what Write answers be just that.
func checkBack(t *testing.T, what string, u api.Update, want ...api.Op) {
	t.Helper()
	checkWritten(t, what, u, modelBytes(modelClean(u)))
	if got := modelClean(u); !exact(api.Update{Ops: got.Ops}, up(want...)) {
		t.Errorf("%s: the test's own Clean is %v", what, short(got))
	}
	checkBytes(t, modelBytes(modelClean(u)))
}

// TestP16_2ReadOfRowsThatOverlap: what stands in and behind a row that is longer than MaxText.
func TestP16_2ReadOfRowsThatOverlap(t *testing.T) {
	s := stretch // of client 1, if it isn't told otherwise
	r := id(2, 1)
	for _, x := range []struct {
		what   string
		l, out []api.Op
	}{
		{"the issue's", []api.Op{s(1, 1, 2), s(1, 2, 4098), s(1, 3, 4097)}, []api.Op{s(1, 1, 4097), s(1, 3, 4097), s(1, 4097, 4098)}},
		{"one rune ahead of the seam", []api.Op{s(1, 1, 2), s(1, 2, 4098), s(1, 3, 4096)}, []api.Op{s(1, 1, 4097), s(1, 3, 4096), s(1, 4097, 4098)}},
		{"over the seam", []api.Op{s(1, 1, 2), s(1, 2, 4098), s(1, 3, 4098)}, []api.Op{s(1, 1, 4097), s(1, 3, 4098), s(1, 4097, 4098)}},
		{"behind the end", []api.Op{s(1, 1, 2), s(1, 2, 4098), s(1, 3, 4099)}, []api.Op{s(1, 1, 4097), s(1, 3, 4099), s(1, 4097, 4098)}},
		{"one rune ahead of the seam alone", []api.Op{s(1, 1, 2), s(1, 2, 4098), s(1, 4096, 4097)}, []api.Op{s(1, 1, 4097), s(1, 4096, 4097), s(1, 4097, 4098)}},
		{"at the seam", []api.Op{s(1, 1, 3), s(1, 3, 4099), s(1, 4097, 4098)}, []api.Op{s(1, 1, 4097), s(1, 4097, 4099), s(1, 4097, 4098)}},
		{"at the seam, alike", []api.Op{s(1, 1, 2), s(1, 2, 4098), s(1, 4097, 4098)}, []api.Op{s(1, 1, 4097), s(1, 4097, 4098), s(1, 4097, 4098)}},
		{"at the seam, longer", []api.Op{s(1, 1, 2), s(1, 2, 4098), s(1, 4097, 8193)}, []api.Op{s(1, 1, 4097), s(1, 4097, 4098), s(1, 4097, 8193)}},
		{"behind the seam", []api.Op{s(1, 1, 3), s(1, 3, 4099), s(1, 4098, 4099)}, []api.Op{s(1, 1, 4097), s(1, 4097, 4099), s(1, 4098, 4099)}},
		{"the last piece full", []api.Op{s(1, 1, 4097), s(1, 4097, 8193), s(1, 4098, 4099)}, []api.Op{s(1, 1, 4097), s(1, 4097, 8193), s(1, 4098, 4099)}},
		{"in a row of three", []api.Op{s(1, 1, 4000), s(1, 4000, 8000), s(1, 8000, 9000), s(1, 8010, 9000)}, []api.Op{s(1, 1, 4097), s(1, 4097, 8193), s(1, 8010, 9000), s(1, 8193, 9000)}},
		{"many within", []api.Op{s(1, 1, 6), s(1, 6, 4102), s(1, 7, 9), s(1, 11, 12), s(1, 500, 510), s(1, 505, 4101), s(1, 4096, 4102), s(1, 4097, 4100)}, []api.Op{s(1, 1, 4097), s(1, 7, 9), s(1, 11, 12), s(1, 500, 510), s(1, 505, 4101), s(1, 4096, 4102), s(1, 4097, 4102), s(1, 4097, 4100)}},
		{"a row within a row", []api.Op{s(1, 1, 6), s(1, 6, 4102), s(1, 10, 20), s(1, 20, 4116)}, []api.Op{s(1, 1, 4097), s(1, 10, 4106), s(1, 4097, 4102), s(1, 4106, 4116)}},
		{"three rows within one another", []api.Op{s(1, 1, 6), s(1, 6, 4102), s(1, 10, 20), s(1, 20, 4116), s(1, 30, 60), s(1, 60, 4156)}, []api.Op{s(1, 1, 4097), s(1, 10, 4106), s(1, 30, 4126), s(1, 4097, 4102), s(1, 4106, 4116), s(1, 4126, 4156)}},
		{"full ones, each behind the other's beginning", []api.Op{s(1, 1, 4097), s(1, 2, 4098), s(1, 3, 4099), s(1, 4, 4100)}, []api.Op{s(1, 1, 4097), s(1, 2, 4098), s(1, 3, 4099), s(1, 4, 4100)}},
		{"full ones, and what goes on each", []api.Op{s(1, 1, 4097), s(1, 2, 4098), s(1, 3, 4099), s(1, 4097, 4100), s(1, 4098, 4101)}, []api.Op{s(1, 1, 4097), s(1, 2, 4098), s(1, 3, 4099), s(1, 4097, 4100), s(1, 4098, 4101)}},
		{"a piece that goes on where two end", []api.Op{s(1, 1, 4097), s(1, 100, 4097), s(1, 200, 300), s(1, 4097, 4100)}, []api.Op{s(1, 1, 4097), s(1, 100, 4097), s(1, 200, 300), s(1, 4097, 4100)}},
		{"rows of two clients", []api.Op{s(1, 1, 2), s(1, 2, 4098), s(1, 3, 4097), s(2, 1, 2), s(2, 2, 4098), s(2, 3, 4097)}, []api.Op{s(1, 1, 4097), s(1, 3, 4097), s(1, 4097, 4098), s(2, 1, 4097), s(2, 3, 4097), s(2, 4097, 4098)}},
		{"with a Right", []api.Op{rightOf(s(1, 1, 2), r), rightOf(s(1, 2, 4098), r), rightOf(s(1, 3, 4097), r)}, []api.Op{rightOf(s(1, 1, 4097), r), rightOf(s(1, 3, 4097), r), rightOf(s(1, 4097, 4098), r)}},
		{"a row between keeps two from being joined", []api.Op{s(1, 1, 4097), s(1, 3000, 4200), s(1, 4097, 4100), s(1, 4200, 4300)}, []api.Op{s(1, 1, 4097), s(1, 3000, 4200), s(1, 4097, 4100), s(1, 4200, 4300)}},
		{"of two rows between, the one that isn't gone on", []api.Op{s(1, 1, 4097), s(1, 100, 104), s(1, 104, 4200), s(1, 3000, 4200), s(1, 4097, 4100), s(1, 4200, 4300)}, []api.Op{s(1, 1, 4097), s(1, 100, 4196), s(1, 3000, 4200), s(1, 4097, 4100), s(1, 4196, 4200), s(1, 4200, 4300)}},
		{"behind a row between, a row that must be gone on", []api.Op{s(1, 1, 4097), s(1, 3000, 4200), s(1, 4097, 4100), s(1, 4200, 4201), s(1, 4201, 8297), s(1, 4202, 8296)}, []api.Op{s(1, 1, 4097), s(1, 3000, 4200), s(1, 4097, 4100), s(1, 4200, 8296), s(1, 4202, 8296), s(1, 8296, 8297)}},
		{"a piece that just can be of a row ahead", []api.Op{s(1, 1, 99), s(1, 99, 4195), s(1, 100, 110)}, []api.Op{s(1, 1, 4097), s(1, 100, 110), s(1, 4097, 4195)}},
		{"a piece that just can't be of a row ahead", []api.Op{s(1, 1, 4097), s(1, 100, 110), s(1, 4097, 4196)}, []api.Op{s(1, 1, 4097), s(1, 100, 110), s(1, 4097, 4196)}},
		{"a row isn't needed between", []api.Op{s(1, 1, 4), s(1, 4, 4100), s(1, 4000, 4150), s(1, 4150, 8246), s(1, 4200, 4210), s(1, 8096, 8100)}, []api.Op{s(1, 1, 4097), s(1, 4000, 8096), s(1, 4097, 4100), s(1, 4200, 4210), s(1, 8096, 8246), s(1, 8096, 8100)}},
		{"a row between, behind where the last source begins", []api.Op{s(1, 1, 4), s(1, 4, 4100), s(1, 200, 4296), s(1, 4000, 4097), s(1, 4097, 8193), s(1, 4296, 4299), s(1, 8193, 8200)}, []api.Op{s(1, 1, 4097), s(1, 200, 4296), s(1, 4000, 8096), s(1, 4097, 4100), s(1, 4296, 4299), s(1, 8096, 8193), s(1, 8193, 8200)}},
		{"a row between that isn't where the next one begins", []api.Op{leftOf(s(1, 1, 2), id(1, 11)), s(1, 2, 4097), s(1, 200, 204), s(1, 204, 4300), s(1, 300, 4296), s(1, 4097, 4102), s(1, 4296, 4310)}, []api.Op{leftOf(s(1, 1, 4097), id(1, 11)), s(1, 200, 4296), s(1, 300, 4296), s(1, 4097, 4102), s(1, 4296, 4300), s(1, 4296, 4310)}},
		{"a row between that isn't gone on, though it costs more", []api.Op{leftOf(s(1, 1, 2), id(1, 11)), s(1, 2, 4097), s(1, 100, 104), s(1, 104, 4200), s(1, 3000, 4200), s(1, 4097, 4100), s(1, 4200, 4300)}, []api.Op{leftOf(s(1, 1, 4097), id(1, 11)), s(1, 100, 4196), s(1, 3000, 4200), s(1, 4097, 4100), s(1, 4196, 4200), s(1, 4200, 4300)}},
		{"rows between of two clients", []api.Op{s(1, 10001, 14097), s(1, 13000, 14200), s(1, 14097, 14100), s(1, 14200, 14300), s(2, 5000, 9096), s(2, 9000, 12000), s(2, 9096, 9100), s(2, 12000, 12100)}, []api.Op{s(1, 10001, 14097), s(1, 13000, 14200), s(1, 14097, 14100), s(1, 14200, 14300), s(2, 5000, 9096), s(2, 9000, 12000), s(2, 9096, 9100), s(2, 12000, 12100)}},
		{"rows between of two clients, the other way round", []api.Op{s(1, 5000, 9096), s(1, 9000, 12000), s(1, 9096, 9100), s(1, 12000, 12100), s(2, 10001, 14097), s(2, 13000, 14200), s(2, 14097, 14100), s(2, 14200, 14300)}, []api.Op{s(1, 5000, 9096), s(1, 9000, 12000), s(1, 9096, 9100), s(1, 12000, 12100), s(2, 10001, 14097), s(2, 13000, 14200), s(2, 14097, 14100), s(2, 14200, 14300)}},
	} {
		checkBack(t, x.what, up(x.l...), x.out...)
		u := both(up(slices.Concat([]api.Op{at(9, 1, "beside"), embed(id(9, 7), id(1, 3), none, null), mark(id(9, 8), 1, begin, behind(id(1, 5)), "k", null), set(id(9, 9), 2, none, "k", aMap)}, x.l, x.l)...), turn(1, 2, 5000, 1), turn(9, 1, 2, 2))
		slices.Reverse(u.Ops[:4])
		checkBack(t, x.what+", with others beside", u, slices.Concat(x.out, []api.Op{at(9, 1, "beside"), embed(id(9, 7), id(1, 3), none, null), mark(id(9, 8), 1, begin, behind(id(1, 5)), "k", null), set(id(9, 9), 2, none, "k", aMap)})...)
	}
}

// TestP16_2ReadOfWhatIsNobodys: right operations, by Id, that Join joins otherwise, whatever it is given.
func TestP16_2ReadOfWhatIsNobodys(t *testing.T) {
	s := stretch
	for _, x := range []struct {
		what string
		l    []api.Op
	}{
		{"the issue's: without the row's first piece", []api.Op{s(1, 3, 4097), s(1, 4097, 4098)}},
		{"the row's first piece a rune shorter", []api.Op{s(1, 1, 4096), s(1, 3, 4097), s(1, 4097, 4098)}},
		{"the row's first piece a rune shorter at its beginning", []api.Op{s(1, 2, 4097), s(1, 3, 4097), s(1, 4097, 4098)}},
		{"the last piece ahead", []api.Op{s(1, 1, 4097), s(1, 4097, 4098), s(1, 3, 4097)}},
		{"the row behind", []api.Op{s(1, 3, 4097), s(1, 1, 4097), s(1, 4097, 4098)}},
		{"pieces of one id in the other order", []api.Op{s(1, 1, 4097), leftOf(s(1, 4097, 4098), none), s(1, 4097, 4099)}},
		{"three of one id", []api.Op{s(1, 1, 4097), s(1, 4097, 4099), s(1, 4097, 4098), s(1, 4097, 4100)}},
		{"two of one id, no row ahead", []api.Op{s(1, 4097, 4099), s(1, 4097, 4098)}},
		{"two of one id, the row's last piece full", []api.Op{s(1, 1, 4097), s(1, 4097, 8193), s(1, 4097, 4098)}},
		{"another one where the row's last source must begin", []api.Op{s(1, 1, 4097), s(1, 2, 4097), s(1, 4097, 4098)}},
		{"the last piece that goes on both", []api.Op{s(1, 1, 4097), s(1, 11, 4097), s(1, 4097, 4107)}},
		{"what goes on a full one, that goes on a full one, over a row", []api.Op{s(1, 1, 4097), s(1, 4097, 8193), s(1, 4098, 8193), s(1, 8193, 8194)}},
		{"no row can be between", []api.Op{s(1, 1, 4097), s(1, 3000, 4200), s(1, 4097, 4200), s(1, 4200, 4300)}},
		{"none between is free", []api.Op{s(1, 1, 4097), s(1, 3000, 4200), rightOf(s(1, 4200, 4300), none)}},
		{"a piece of another client between", []api.Op{s(1, 1, 4097), s(1, 3, 4097), s(1, 4097, 4098), s(2, 3, 4097), s(2, 4097, 4098)}},
		{"a wrong one in the row's place", []api.Op{text(id(1, 1), none, none, strings.Repeat("x", full+1)), s(1, 3, 4098), s(1, 4098, 4099)}},
		{"a wrong last piece", []api.Op{s(1, 1, 4097), s(1, 3, 4097), at(1, 4097, "")}},
		{"a wrong last piece, no text", []api.Op{s(1, 1, 4097), s(1, 3, 4097), at(1, 4097, "\xFF")}},
	} {
		if _, found := modelSources(x.l); found {
			t.Errorf("%s: the model finds what it is of", x.what)
		}
		checkRefused(t, x.what, modelBytes(up(x.l...)))
	}
}

// TestP16_2ReadOfNamesThatBecameItsOwn: a text names an id of its own client's that is its own once it is joined with what goes on. Check refuses that one, but it is written, and so it is read.
func TestP16_2ReadOfNamesThatBecameItsOwn(t *testing.T) {
	s := stretch
	for _, x := range []struct {
		what   string
		l, out []api.Op
	}{
		{"two runes", []api.Op{leftOf(s(1, 1, 2), id(1, 2)), s(1, 2, 3)}, []api.Op{leftOf(s(1, 1, 3), id(1, 2))}},
		{"the last one of three", []api.Op{leftOf(s(1, 1, 3), id(1, 3)), s(1, 3, 4)}, []api.Op{leftOf(s(1, 1, 4), id(1, 3))}},
		{"the second one of many", []api.Op{leftOf(s(1, 5, 6), id(1, 6)), s(1, 6, 4101)}, []api.Op{leftOf(s(1, 5, 4101), id(1, 6))}},
		{"of a long row", []api.Op{leftOf(s(1, 1, 11), id(1, 11)), s(1, 11, 4107), s(1, 4107, 5000)}, []api.Op{leftOf(s(1, 1, 4097), id(1, 11)), s(1, 4097, 5000)}},
		{"of a long row that is overlapped", []api.Op{leftOf(s(1, 1, 11), id(1, 11)), s(1, 11, 4107), s(1, 12, 20)}, []api.Op{leftOf(s(1, 1, 4097), id(1, 11)), s(1, 12, 20), s(1, 4097, 4107)}},
		{"overlapped behind its first rune", []api.Op{leftOf(s(1, 1, 2), id(1, 5)), s(1, 2, 9), s(1, 3, 4)}, []api.Op{leftOf(s(1, 1, 9), id(1, 5)), s(1, 3, 4)}},
		{"in a piece behind", []api.Op{leftOf(s(1, 1, 4097), id(1, 4097)), s(1, 4097, 4098)}, []api.Op{leftOf(s(1, 1, 4097), id(1, 4097)), s(1, 4097, 4098)}},
	} {
		checkBack(t, x.what, up(x.l...), x.out...)
	}
	for _, x := range []struct {
		what string
		l    []api.Op
	}{
		{"its first rune", []api.Op{leftOf(s(1, 1, 3), id(1, 1))}},
		{"overlapped where its second rune is", []api.Op{leftOf(s(1, 1, 9), id(1, 5)), s(1, 2, 4)}},
		{"its Right", []api.Op{rightOf(s(1, 1, 3), id(1, 2))}},
		{"its Right, in a piece behind", []api.Op{rightOf(s(1, 1, 4097), id(1, 4098)), rightOf(s(1, 4097, 4099), id(1, 4098))}},
		{"an embed's", []api.Op{embed(id(1, 1), id(1, 1), none, null)}},
	} {
		checkRefused(t, x.what, modelBytes(up(x.l...)))
		checkBytes(t, modelBytes(up(x.l...)))
	}
}

// TestP16_2FewestOperations: MaxOps operations just tell what some operations and many others tell, or don't.
func TestP16_2FewestOperations(t *testing.T) {
	s := stretch
	costly, cheap := leftOf(s(1, 1, 4097), id(1, 11)), s(1, 1, 4097)
	later := leftOf(s(1, 100, 4196), id(1, 110))
	around := func(first, second api.Op, more ...api.Op) []api.Op {
		return slices.Concat([]api.Op{first, second, s(1, 200, 4250)}, more, []api.Op{s(1, 4250, 4260)})
	}
	for _, x := range []struct {
		what string
		l    []api.Op
		want int
	}{
		{"one", []api.Op{s(1, 1, 2)}, 1},
		{"a long row", []api.Op{s(1, 1, 4097), s(1, 4097, 5000)}, 2},
		{"a name that became its own", []api.Op{leftOf(s(1, 1, 3), id(1, 2))}, 2},
		{"a name that became its own, of many runes", []api.Op{leftOf(s(1, 1, 4097), id(1, 4096))}, 2},
		{"a name that the first one of two has as its own", []api.Op{costly, s(1, 4097, 4108)}, 3},
		{"a name that the first one of two doesn't have", []api.Op{costly, s(1, 4097, 4107)}, 2},
		{"a row between, where one costs more", around(costly, s(1, 100, 4196), s(1, 4097, 4102), s(1, 4196, 4203)), 6},
		{"a row between, where the other costs more", around(cheap, later, s(1, 4097, 4102), s(1, 4196, 4203)), 6},
		{"a row between, where both cost more", around(costly, later, s(1, 4097, 4102), s(1, 4196, 4203)), 7},
		{"a row between, where neither costs more", around(cheap, s(1, 100, 4196), s(1, 4097, 4102), s(1, 4196, 4203)), 6},
	} {
		from, found := modelSources(x.l)
		if !found || len(from) != x.want {
			t.Errorf("%s: the model finds %t, %d", x.what, found, len(from))
		}
		for more := range 2 {
			u := up(from...)
			for n := range uint64(api.MaxOps - x.want + more) {
				u.Ops = append(u.Ops, embed(id(2, 1+n), none, none, null))
			}
			b := modelBytes(modelClean(u))
			if more == 0 {
				checkWritten(t, x.what, u, b)
			} else {
				checkUnwritten(t, x.what, u, api.ErrUpdateForm)
				checkRefused(t, x.what+", and one more", b)
			}
		}
	}
}

// overlapping: a client's texts over a long row, where pieces of MaxText end and near by, without a second kind of rune at any clock; others ahead of it or behind.
func overlapping(next func(int) int, client uint64) []api.Op {
	near := func() uint64 { return uint64(max(1, 1+next(11)*full/4+next(5)-2)) }
	var l []api.Op
	right := []api.Id{none, id(8, 1)}[next(2)]
	for range 1 + next(7) {
		from := near()
		to := from + uint64(full)
		if next(3) > 0 {
			to = near()
		}
		if from < to && to <= from+full {
			l = append(l, rightOf(stretch(client, from, to), right))
		}
	}
	slices.SortFunc(l, func(a, b api.Op) int { return int(a.Id.Clock) - int(b.Id.Clock) })
	if len(l) > 0 && next(2) == 1 {
		l[0] = leftOf(l[0], []api.Id{none, id(9, 1), id(client, l[0].Id.Clock+uint64(1+next(6000)))}[next(3)])
	}
	over := uint64(4 * full)
	for n := range uint64(next(3)) {
		l = append(l, []api.Op{embed(id(client, over+n), none, id(client, 5), null), mark(id(client, over+n), 1, behind(id(client, 2)), end, "k", null), set(id(client, over+n), 1, none, "k", aMap)}[next(3)])
	}
	return slices.DeleteFunc(l, func(o api.Op) bool { return ops.Check(o) != api.OK })
}

// tryRows: P16.2 of texts that overlap, and of bytes near theirs.
func tryRows(t *testing.T, next func(int) int) {
	t.Helper()
	var u api.Update
	for client := range uint64(1 + next(2)) {
		u.Ops = append(u.Ops, overlapping(next, 1+client)...)
	}
	for range next(3) {
		from := uint64(1 + next(9000))
		u.Turns = append(u.Turns, turn(uint64(1+next(2)), from, from+uint64(1+next(5000)), uint64(1+next(3))))
	}
	l := &life{next: next}
	l.shuffle(u)
	checkForm(t, u)
	b := modelBytes(modelClean(u))
	checkBytes(t, b)
	for range 4 {
		c := copyOf(modelClean(u))
		for range 1 + next(2) {
			c.Ops = disturbed(next, c.Ops)
		}
		checkBytes(t, modelBytes(c))
	}
}

// disturbed: l with one thing otherwise: a piece left out, shorter, with another Left or Right, in another order, twice.
func disturbed(next func(int) int, l []api.Op) []api.Op {
	if len(l) == 0 {
		return l
	}
	i := next(len(l))
	o := l[i]
	switch next(8) {
	case 0:
		return slices.Delete(l, i, i+1)
	case 1:
		return slices.Insert(l, i, o)
	case 2:
		k := next(len(l))
		l[i], l[k] = l[k], l[i]
	case 3:
		l[i].Left = []api.Id{none, id(9, 1), id(o.Id.Client, o.Id.Clock-1), id(o.Id.Client, o.Id.Clock+uint64(next(5000)))}[next(4)]
	case 4:
		l[i].Right = []api.Id{none, id(8, 1), id(o.Id.Client, o.Id.Clock+uint64(next(5000)))}[next(3)]
	case 5:
		l[i].Id.Clock += uint64(next(3)) - 1
	default:
		n := ops.Len(o)
		from, less := 0, 1+next(2)
		if next(2) == 1 {
			from = less
		}
		if cut, some := ops.Cut(o, from, n-less+from); some {
			l[i] = cut
		}
	}
	return l
}

func TestP16_2RowsByTheModel(t *testing.T) {
	for seed := range int64(400) {
		tryRows(t, drawn(seed))
	}
}

func FuzzP16_2RowsByTheModel(f *testing.F) {
	for seed := range int64(8) {
		b := make([]byte, 100)
		rand.New(rand.NewSource(seed)).Read(b)
		f.Add(b)
	}
	f.Fuzz(func(t *testing.T, b []byte) { tryRows(t, given(b)) })
}
