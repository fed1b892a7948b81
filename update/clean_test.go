package update_test

import (
	"fmt"
	"slices"
	"strings"
	"testing"

	"quire/api"
	"quire/ops"
	"quire/update"
)

// checkClean: Clean of u, whether that is nothing, and that it tells the same.
func checkClean(t *testing.T, what string, u, want api.Update) {
	t.Helper()
	if got := clean(t, u); !exact(got, want) {
		t.Errorf("%s: %v, not %v", what, short(got), short(want))
	}
	if got := empty(t, u); got != (len(want.Ops)+len(want.Turns) == 0) {
		t.Errorf("%s: Empty: %t", what, got)
	}
	if !same(t, u, want) {
		t.Errorf("%s: Clean tells another update", what)
	}
}

func TestP16_1Clean(t *testing.T) {
	a, one := at(1, 1, "a"), integer(1)
	e, m, s := embed(id(1, 2), none, none, one), mark(id(2, 1), 1, begin, end, "k", one), set(id(2, 2), 1, none, "k", one)
	long := at(1, 1, strings.Repeat("é", full))
	for _, x := range []struct {
		what    string
		u, want api.Update
	}{
		{"nothing", api.Update{}, api.Update{}},
		{"empty lists", api.Update{Ops: []api.Op{}, Turns: []api.Turn{}}, api.Update{}},
		{"one operation", up(a), up(a)},
		{"one of each kind, out of order", up(s, e, m, a), up(a, e, m, s)},
		{"doubled ones", up(s, a, a, s, s), up(a, s)},
		{"of one id, the first counts", up(at(1, 1, "ab"), at(1, 1, "abc")), up(at(1, 1, "ab"))},
		{"texts that go on", up(at(1, 3, "c"), at(1, 1, "ab"), at(1, 4, "def")), up(at(1, 1, "abcdef"))},
		{"texts with a gap between them", up(at(1, 4, "c"), at(1, 1, "ab")), up(at(1, 1, "ab"), at(1, 4, "c"))},
		{"texts that overlap are left to Merge", up(at(1, 2, "bcd"), at(1, 1, "ab")), up(at(1, 1, "ab"), at(1, 2, "bcd"))},
		{"texts that are longer together than one", up(at(1, full+1, "yz"), long), up(long, at(1, full+1, "yz"))},
		{"a long one behind a short one", up(at(1, 1, "yz"), at(1, 3, long.Text)), up(at(1, 1, "yz"+long.Text[4:]), at(1, full+1, "éé"))},
		{"NaN of other bits", up(embed(id(1, 1), none, none, floatOf(0xFFF0000000000001))), up(embed(id(1, 1), none, none, floatOf(theNaN)))},
		{"both noughts", up(embed(id(1, 2), none, none, floatOf(1<<63)), embed(id(1, 1), none, none, float(0))), up(embed(id(1, 1), none, none, float(0)), embed(id(1, 2), none, none, floatOf(1<<63)))},
		{"one turn", turning(turn(1, 1, 5, 1)), turning(turn(1, 1, 5, 1))},
		{"the chapter's turns", turning(turn(1, 3, 9, 2), turn(1, 1, 5, 1)), turning(turn(1, 1, 3, 1), turn(1, 3, 9, 2))},
		{"turns that touch", turning(turn(2, 3, 4, 1), turn(1, 1, 5, 1), turn(2, 1, 3, 1)), turning(turn(1, 1, 5, 1), turn(2, 1, 4, 1))},
		{"doubled turns", turning(turn(1, 1, 5, 3), turn(1, 1, 5, 3), turn(1, 2, 3, 1)), turning(turn(1, 1, 5, 3))},
		{"both lists", both(up(at(1, 2, "b"), a), turn(7, 2, 3, 1), turn(1, 1, 2, 1)), both(up(at(1, 1, "ab")), turn(1, 1, 2, 1), turn(7, 2, 3, 1))},
	} {
		checkClean(t, x.what, x.u, x.want)
	}
	for _, o := range each() {
		checkClean(t, "one of each", up(o), up(oneNaN(o)))
	}
	u, want := up(each()...), up(each()...)
	for i, o := range want.Ops {
		want.Ops[i] = oneNaN(o)
	}
	slices.Reverse(u.Ops)
	checkClean(t, "all of them", u, want)
}

// TestP16_1WhatIsRefusedGoes: ahead of right ones, behind them, and alone.
func TestP16_1WhatIsRefusedGoes(t *testing.T) {
	right := both(up(at(1, 1, "ab"), at(2, 1, "c")), turn(1, 2, 3, 1), turn(1, 4, 5, 2))
	for _, o := range wrongOps() {
		for place := range 3 {
			checkClean(t, fmt.Sprintf("%v at %d", o.Id, place), api.Update{Ops: slices.Insert(slices.Clone(right.Ops), place, o), Turns: right.Turns}, right)
		}
		checkClean(t, "alone", up(o), api.Update{})
	}
	for _, x := range wrongTurns() {
		for place := range 3 {
			checkClean(t, fmt.Sprintf("%v at %d", x, place), api.Update{Ops: right.Ops, Turns: slices.Insert(slices.Clone(right.Turns), place, x)}, right)
		}
		checkClean(t, "alone", turning(x), api.Update{})
	}
	checkClean(t, "all of them", both(up(wrongOps()...), wrongTurns()...), api.Update{})
	checkClean(t, "a right operation among them", both(up(append(wrongOps(), at(1, 1, "ab"))...), wrongTurns()...), up(at(1, 1, "ab")))
	checkClean(t, "a right turn among them", both(up(wrongOps()...), append(wrongTurns(), turn(1, 1, 2, 1))...), turning(turn(1, 1, 2, 1)))
}

// TestP16_1CleanOfMany: there is no bound on what is cleaned.
func TestP16_1CleanOfMany(t *testing.T) {
	var u, want api.Update
	for i := range uint64(2*api.MaxOps + 3) {
		u.Ops = append(u.Ops, at(1, 1+i, "x"))
		u.Turns = append(u.Turns, turn(1, 1+2*i, 2+2*i, 1))
	}
	whole := at(1, 1, strings.Repeat("x", full))
	want.Turns = u.Turns
	for i := range 8 {
		o := at(1, uint64(1+i*full), whole.Text)
		want.Ops = append(want.Ops, o)
	}
	want.Ops = append(want.Ops, at(1, 8*full+1, "xxx"))
	u = copyOf(u)
	slices.Reverse(u.Ops)
	slices.Reverse(u.Turns)
	checkClean(t, "many", u, want)
	if got := merge(t, u, u); !exact(got, want) {
		t.Errorf("many: Merge: %v", short(got))
	}
}

func TestP16_1Merge(t *testing.T) {
	one := integer(1)
	m, s, e := mark(id(2, 1), 1, begin, end, "k", one), set(id(2, 2), 1, none, "k", one), embed(id(2, 3), id(1, 1), none, one)
	for _, x := range []struct {
		what string
		l    []api.Update
		want api.Update
	}{
		{"none", nil, api.Update{}},
		{"nothing", []api.Update{{}}, api.Update{}},
		{"several that have nothing", []api.Update{{}, {Ops: []api.Op{}}, {Turns: []api.Turn{}}}, api.Update{}},
		{"one", []api.Update{up(s, m)}, up(m, s)},
		{"one of each kind", []api.Update{up(s), up(e), {}, up(m, at(1, 1, "a"))}, up(at(1, 1, "a"), m, s, e)},
		{"one clock twice", []api.Update{up(s, m), up(m), up(e, m)}, up(m, s, e)},
		{"one text twice", []api.Update{up(at(1, 1, "abc")), up(at(1, 1, "abc"))}, up(at(1, 1, "abc"))},
		{"texts that go on", []api.Update{up(at(1, 3, "c")), up(at(1, 1, "ab"))}, up(at(1, 1, "abc"))},
		{"texts that overlap in part", []api.Update{up(at(1, 1, "abc")), up(at(1, 2, "bcde"))}, up(at(1, 1, "abcde"))},
		{"of one id, the longer one counts", []api.Update{up(at(1, 1, "ab")), up(at(1, 1, "abc"))}, up(at(1, 1, "abc"))},
		{"one within the other", []api.Update{up(at(1, 1, "abcd")), up(at(1, 2, "bc"))}, up(at(1, 1, "abcd"))},
		{"one at the other's end", []api.Update{up(at(1, 1, "abcd")), up(at(1, 4, "d"))}, up(at(1, 1, "abcd"))},
		{"three over one clock", []api.Update{up(at(1, 1, "abc")), up(at(1, 3, "cde")), up(at(1, 2, "bcd"))}, up(at(1, 1, "abcde"))},
		{"one over two and their gap", []api.Update{up(at(1, 1, "ab"), at(1, 5, "ef")), up(at(1, 2, "bcde"))}, up(at(1, 1, "abcdef"))},
		{"a gap that stays", []api.Update{up(at(1, 1, "ab")), up(at(1, 4, "de"), at(1, 4, "d"))}, up(at(1, 1, "ab"), at(1, 4, "de"))},
		{"overlapping ones that others go on", []api.Update{up(at(1, 1, "abc"), text(id(1, 4), id(1, 1), none, "x")), up(at(1, 2, "bc"), text(id(1, 5), id(1, 4), none, "y"))}, up(at(1, 1, "abc"), text(id(1, 4), id(1, 1), none, "xy"))},
		{"of several clients", []api.Update{up(at(2, 1, "abc"), at(1, 2, "yz")), up(at(1, 1, "xy"), at(2, 3, "cd"))}, up(at(1, 1, "xyz"), at(2, 1, "abcd"))},
		{"the last ids of all", []api.Update{up(at(top, top-1, "yz")), up(at(top, top-2, "xy"), at(top, top, "z"))}, up(at(top, top-2, "xyz"))},
		{"turns", []api.Update{turning(turn(1, 1, 5, 1), turn(2, 1, 2, 1)), turning(turn(1, 3, 9, 2))}, turning(turn(1, 1, 3, 1), turn(1, 3, 9, 2), turn(2, 1, 2, 1))},
		{"turns of one id", []api.Update{turning(turn(1, 1, 2, 1)), turning(turn(1, 1, 2, 3)), turning(turn(1, 1, 2, 2))}, turning(turn(1, 1, 2, 3))},
		{"operations of one, turns of the other", []api.Update{turning(turn(1, 1, 2, 1)), up(at(1, 1, "a"))}, both(up(at(1, 1, "a")), turn(1, 1, 2, 1))},
	} {
		for range 2 {
			if got := merge(t, x.l...); !exact(got, x.want) {
				t.Errorf("%s: %v, not %v", x.what, short(got), short(x.want))
			}
			slices.Reverse(x.l)
		}
		var together api.Update
		for _, u := range x.l {
			together.Ops = append(together.Ops, u.Ops...)
			together.Turns = append(together.Turns, u.Turns...)
		}
		if got := merge(t, together); !exact(got, x.want) {
			t.Errorf("%s, in one update: %v, not %v", x.what, short(got), short(x.want))
		}
	}
}

// TestP16_1MergeOfWrongOnes: what is refused takes no clock from a right one, wherever it stands.
func TestP16_1MergeOfWrongOnes(t *testing.T) {
	want := both(up(at(1, 1, "abcd"), at(2, 1, "x")), turn(1, 2, 3, 1))
	a, b := both(up(at(1, 1, "abc")), turn(1, 2, 3, 1)), up(at(1, 2, "bcd"), at(2, 1, "x"))
	for _, o := range wrongOps() {
		for _, l := range [][]api.Update{{up(o), a, b}, {a, up(o), b}, {a, b, up(o)}, {b, a, up(o)}, {up(o), up(o), both(up(o, a.Ops[0], o), a.Turns...), b}} {
			if got := merge(t, l...); !exact(got, want) {
				t.Errorf("%v: %v", o.Id, short(got))
			}
		}
	}
	for _, x := range wrongTurns() {
		if got := merge(t, turning(x), a, b, turning(x, x)); !exact(got, want) {
			t.Errorf("%v: %v", x, short(got))
		}
	}
	if got := merge(t, up(wrongOps()...), turning(wrongTurns()...)); !exact(got, api.Update{}) {
		t.Errorf("wrong ones alone: %v", short(got))
	}
}

// TestP16_1MergeOfLongTexts: rows that are longer than one operation, told in pieces that overlap.
func TestP16_1MergeOfLongTexts(t *testing.T) {
	row := strings.Repeat("0123456789abcdef", full/16*5/2)
	pieces := func(n, step int) (u api.Update) {
		for from := 0; from < len(row); from += step {
			u.Ops = append(u.Ops, at(1, uint64(1+from), row[from:min(from+n, len(row))]))
		}
		return u
	}
	want := up(at(1, 1, row[:full]), at(1, full+1, row[full:2*full]), at(1, 2*full+1, row[2*full:]))
	for _, l := range [][]api.Update{
		{pieces(full, full)}, {pieces(full, 1000)}, {pieces(1, 1)}, {pieces(3, 2)}, {pieces(2, 3), pieces(3, 3)}, {pieces(full, full), pieces(full, 999)}, {pieces(100, 100), pieces(full, full), pieces(1, 1)},
	} {
		if got := merge(t, l...); !exact(got, want) {
			t.Errorf("%v", short(got))
		}
	}
}

// unlike: pairs that differ in one field of an operation, or of a turn.
func unlike() [][2]api.Update {
	a, b := id(5, 1), id(5, 2)
	tx, em := text(id(1, 1), a, a, "x"), embed(id(1, 1), a, a, float(0))
	m, s := mark(id(1, 1), 1, ahead(a), ahead(a), "k", integer(1)), set(id(1, 1), 1, a, "k", integer(1))
	var l [][2]api.Update
	for _, o := range []api.Op{
		text(id(1, 2), a, a, "x"), text(id(2, 1), a, a, "x"), text(id(1, 1), b, a, "x"), text(id(1, 1), a, none, "x"), text(id(1, 1), a, a, "y"), text(id(1, 1), a, a, "xx"),
	} {
		l = append(l, [2]api.Update{up(tx), up(o)})
	}
	for _, o := range []api.Op{
		embed(id(1, 2), a, a, float(0)), embed(id(1, 1), b, a, float(0)), embed(id(1, 1), a, b, float(0)), embed(id(1, 1), a, a, floatOf(1<<63)), embed(id(1, 1), a, a, floatOf(theNaN)), embed(id(1, 1), a, a, integer(0)), embed(id(1, 1), a, a, null), embed(id(1, 1), a, a, boolean(0)), embed(id(1, 1), a, a, words("")),
	} {
		l = append(l, [2]api.Update{up(em), up(o)})
	}
	for _, o := range []api.Op{
		mark(id(1, 2), 1, ahead(a), ahead(a), "k", integer(1)), mark(id(1, 1), 2, ahead(a), ahead(a), "k", integer(1)), mark(id(1, 1), 1, ahead(b), ahead(a), "k", integer(1)), mark(id(1, 1), 1, behind(a), ahead(a), "k", integer(1)), mark(id(1, 1), 1, ahead(a), ahead(b), "k", integer(1)), mark(id(1, 1), 1, ahead(a), behind(a), "k", integer(1)), mark(id(1, 1), 1, ahead(a), ahead(a), "l", integer(1)), mark(id(1, 1), 1, ahead(a), ahead(a), "k", integer(2)), mark(id(1, 1), 1, ahead(a), ahead(a), "k", boolean(1)),
	} {
		l = append(l, [2]api.Update{up(m), up(o)})
	}
	for _, o := range []api.Op{
		set(id(1, 2), 1, a, "k", integer(1)), set(id(1, 1), 2, a, "k", integer(1)), set(id(1, 1), 1, b, "k", integer(1)), set(id(1, 1), 1, a, "l", integer(1)), set(id(1, 1), 1, a, "k", integer(2)), set(id(1, 1), 1, a, "k", aMap), set(id(1, 1), 1, a, "k", words("1")),
	} {
		l = append(l, [2]api.Update{up(s), up(o)})
	}
	for _, x := range []api.Turn{turn(2, 2, 5, 2), turn(1, 1, 5, 2), turn(1, 3, 5, 2), turn(1, 2, 4, 2), turn(1, 2, 6, 2), turn(1, 2, 5, 1), turn(1, 2, 5, 3)} {
		l = append(l, [2]api.Update{turning(turn(1, 2, 5, 2)), turning(x)})
	}
	return append(l, [2]api.Update{up(tx), up(em)}, [2]api.Update{up(m), up(s)}, [2]api.Update{up(em), up(embed(id(1, 1), a, a, floatOf(1<<63)))}, [2]api.Update{up(tx), {}}, [2]api.Update{turning(turn(1, 1, 2, 1)), {}}, [2]api.Update{up(tx, at(2, 1, "b")), up(tx)}, [2]api.Update{turning(turn(1, 1, 2, 1), turn(1, 3, 4, 1)), turning(turn(1, 1, 2, 1))})
}

func TestP16_1Same(t *testing.T) {
	for _, x := range unlike() {
		if same(t, x[0], x[1]) {
			t.Errorf("%v is the same as %v", x[0], x[1])
		}
		more := both(up(at(9, 1, "more")), turn(9, 1, 3, 1))
		if same(t, both(up(append(x[0].Ops, more.Ops...)...), append(x[0].Turns, more.Turns...)...), both(up(append(x[1].Ops, more.Ops...)...), append(x[1].Turns, more.Turns...)...)) {
			t.Errorf("%v with more is the same as %v with that", x[0], x[1])
		}
		if !same(t, x[0], x[0]) || !same(t, x[1], x[1]) {
			t.Errorf("%v or %v isn't the same as itself", x[0], x[1])
		}
	}
	whole := at(1, 1, "abcdef")
	head, _ := ops.Cut(whole, 0, 2)
	tail, _ := ops.Cut(whole, 2, 6)
	e := embed(id(3, 1), none, none, floatOf(theNaN))
	for _, x := range []struct {
		what string
		a, b api.Update
		want bool
	}{
		{"nothing", api.Update{}, api.Update{Ops: []api.Op{}, Turns: []api.Turn{}}, true},
		{"wrong ones alone", up(wrongOps()...), turning(wrongTurns()...), true},
		{"wrong ones beside right ones", both(up(append(wrongOps(), whole)...), turn(1, 1, 2, 1)), both(up(whole), append(wrongTurns(), turn(1, 1, 2, 1))...), true},
		{"cut in other places", up(whole), up(head, tail), true},
		{"cut in pieces of a rune", up(clocksOf(whole)...), up(head, tail), true},
		{"cut with a part missing", up(whole), up(tail), false},
		{"in another order", up(whole, e), up(e, tail, head), true},
		{"doubled", up(whole, whole, e), up(e, whole, e), true},
		{"overlapping ones stay what they are", up(whole), up(whole, tail), false},
		{"NaN of other bits", up(e), up(embed(id(3, 1), none, none, floatOf(0x7FF0000000000001))), true},
		{"turns in another order", turning(turn(1, 1, 2, 1), turn(1, 3, 4, 2)), turning(turn(1, 3, 4, 2), turn(1, 1, 2, 1)), true},
		{"turns in pieces", turning(turn(1, 1, 4, 1)), turning(turn(1, 3, 4, 1), turn(1, 1, 2, 1), turn(1, 2, 3, 1)), true},
		{"turns below others", turning(turn(1, 1, 4, 2)), turning(turn(1, 1, 4, 2), turn(1, 2, 3, 1)), true},
		{"a turn in place of an operation", up(at(1, 1, "a")), turning(turn(1, 1, 2, 1)), false},
	} {
		if got := same(t, x.a, x.b); got != x.want {
			t.Errorf("%s: %t", x.what, got)
		}
	}
}

// TestP16_1UnlikeOnesEnd: nothing is promised of operations that tell one id and are unlike, but that the calls end and don't panic.
func TestP16_1UnlikeOnesEnd(t *testing.T) {
	l := []api.Op{at(1, 1, "abc"), at(1, 1, "xyz"), text(id(1, 2), none, id(2, 2), "q"), embed(id(1, 2), none, none, null), mark(id(1, 3), 1, begin, end, "k", null), set(id(1, 1), 1, none, "k", aMap), text(id(1, 3), id(1, 1), none, "vwxyz"), at(1, 2, strings.Repeat("é", full))}
	for i := range l {
		for k := range l {
			a, b := up(l[i], l[k]), up(l[(i+k)%len(l)])
			update.Merge([]api.Update{a, b, update.Merge([]api.Update{b, a})})
			update.Same(a, b)
			if bytes, e := update.Write(both(a, turn(1, 1, 2, 1))); e == api.OK {
				update.Read(bytes)
			}
			update.Since(of(t, a, b, update.Clean(a)), []api.Clock{clock(1, uint64(i))}, nil)
		}
	}
}
