package doc_test

import (
	"fmt"
	"slices"
	"strings"
	"testing"

	"quire/api"
	"quire/doc"
	"quire/ops"
)

// TestP13_1Examples: the chapter's.
func TestP13_1Examples(t *testing.T) {
	d := of(t, up(at(1, 1, "ab")), turning(turn(1, 1, 2, 1)))
	checkShown(t, "turn 1 of 1 1", d, "b")
	news(t, d, "turn 2 of it", turning(turn(1, 1, 2, 2)))
	checkShown(t, "turn 2 of it", d, "ab")

	d = of(t, up(text(id(2, 1), id(1, 2), none, "x")))
	checkWaiting(t, "a text whose Left isn't known", d, 1)
	same(t, "a text whose Left isn't known: Vector", d.Vector(), nil)
}

// some: a document that knows something of each kind, with turns, void ones, and some that wait.
func some(t *testing.T) *doc.Doc {
	t.Helper()
	return of(t, api.Update{
		Ops: []api.Op{
			at(1, 1, "abcdef"), embed(id(1, 7), id(1, 3), id(1, 4), integer(5)), set(id(1, 8), 3, none, "m", aMap), set(id(1, 9), 4, id(1, 8), "k", integer(1)),
			mark(id(2, 1), 5, ahead(id(1, 2)), behind(id(1, 5)), "bold", boolean(1)), text(id(2, 2), id(1, 4), id(1, 1), "void"), text(id(2, 6), id(9, 9), none, "waits"), text(id(3, 5), none, none, "late"),
		},
		Turns: []api.Turn{turn(1, 2, 3, 1), turn(1, 9, 10, 2), turn(8, 1, 2, 7)},
	})
}

func TestP13_1BrokenOps(t *testing.T) {
	right := []api.Op{at(4, 1, "x"), text(id(4, 2), id(1, 2), id(1, 3), "y"), at(3, 1, "late")}
	for n, wrong := range wrongOps() {
		if ops.Check(wrong) == api.OK {
			t.Fatalf("the test's own: %v is right", wrong)
		}
		for place := range len(right) + 1 {
			d := some(t)
			want := allOf(d)
			ok, e := tell(t, d, api.Update{Ops: slices.Insert(slices.Clone(right), place, wrong), Turns: []api.Turn{turn(1, 1, 9, 9)}})
			if ok || e != api.ErrOpForm {
				t.Errorf("%d at %d: %t, %v", n, place, ok, e)
			}
			sameAll(t, fmt.Sprint(n, " at ", place), allOf(d), want)
			known(t, d, "nothing of it", api.Update{})
			news(t, d, "the right ones alone", up(right...))
		}
	}
}

func TestP13_1TooMany(t *testing.T) {
	many := func(n int) []api.Op {
		var l []api.Op
		for i := range n {
			l = append(l, at(4, uint64(1+i), "x"))
		}
		return l
	}
	rights := func(n int) []api.Turn {
		var l []api.Turn
		for i := range n {
			l = append(l, turn(4, uint64(1+2*i), uint64(2+2*i), 1))
		}
		return l
	}
	alike := slices.Repeat([]api.Op{at(4, 1, "x")}, api.MaxOps+1)
	wrong := slices.Repeat([]api.Turn{{}}, api.MaxOps+1)
	for _, u := range []struct {
		what string
		u    api.Update
		e    api.Errno
	}{
		{"operations, the most", api.Update{Ops: many(api.MaxOps)}, api.OK},
		{"operations, one more", api.Update{Ops: many(api.MaxOps + 1)}, api.ErrOpForm},
		{"operations, one more, with turns", api.Update{Ops: many(api.MaxOps + 1), Turns: rights(1)}, api.ErrOpForm},
		{"operations, one more, all alike", api.Update{Ops: alike}, api.ErrOpForm},
		{"turns, the most", api.Update{Turns: rights(api.MaxOps)}, api.OK},
		{"turns, one more", api.Update{Turns: rights(api.MaxOps + 1)}, api.ErrOpForm},
		{"turns, one more, with operations", api.Update{Ops: many(1), Turns: rights(api.MaxOps + 1)}, api.ErrOpForm},
		{"turns that aren't right, one more", api.Update{Ops: many(1), Turns: wrong}, api.ErrOpForm},
		{"turns that aren't right, the most", api.Update{Ops: many(1), Turns: wrong[1:]}, api.OK},
		{"both, the most", api.Update{Ops: many(api.MaxOps), Turns: rights(api.MaxOps)}, api.OK},
	} {
		d := some(t)
		was := allOf(d)
		ok, e := tell(t, d, u.u)
		if e != u.e || ok != (e == api.OK) {
			t.Errorf("%s: %t, %v", u.what, ok, e)
		}
		if u.e != api.OK {
			sameAll(t, u.what, allOf(d), was)
		} else if len(d.Vector()) < 3 && len(u.u.Ops) > 0 || len(u.u.Turns) == api.MaxOps && u.u.Turns[0].N > 0 && len(d.Turns()) != api.MaxOps+3 {
			t.Errorf("%s: it wasn't taken", u.what)
		}
	}
}

// TestP13_1WaitsForItsOwnClocks: operations of one client, in any order.
func TestP13_1WaitsForItsOwnClocks(t *testing.T) {
	d := doc.New()
	news(t, d, "clocks 4, 5", up(at(1, 4, "de")))
	checkWaiting(t, "clocks 4, 5", d, 2)
	news(t, d, "clock 2", up(at(1, 2, "b")))
	checkWaiting(t, "clocks 2, 4, 5", d, 3)
	checkShown(t, "clocks 2, 4, 5", d, "")
	news(t, d, "clock 1", up(at(1, 1, "a")))
	checkWaiting(t, "clocks 1, 2, 4, 5", d, 2)
	checkShown(t, "clocks 1, 2, 4, 5", d, "ab")
	news(t, d, "clock 6, no text", up(set(id(1, 6), 1, none, "k", integer(1))))
	checkShown(t, "clocks 1, 2, 4, 5, 6", d, "ab")
	same(t, "Vector", d.Vector(), []api.Clock{{Client: 1, Clock: 2}})
	news(t, d, "clock 3", up(at(1, 3, "c")))
	checkWaiting(t, "all", d, 0)
	checkShown(t, "all", d, "abcde{k=1}")
	same(t, "Vector", d.Vector(), []api.Clock{{Client: 1, Clock: 6}})
}

// TestP13_1WaitsForWhatItNeeds: of each kind, for each of the ids of others that it names.
func TestP13_1WaitsForWhatItNeeds(t *testing.T) {
	a, b := id(1, 1), id(1, 2)
	one := integer(1)
	for _, x := range []struct {
		what string
		o    api.Op
		want string // when clock 1 is known, when 2 is
	}{
		{"a text's Left", text(id(2, 1), b, none, "x"), "a+1 abx"},
		{"a text's Right", text(id(2, 1), none, b, "x"), "a+1 axb"},
		{"a text's both", text(id(2, 1), a, b, "xy"), "a+2 axyb"},
		{"a text's Left, known first", text(id(2, 1), a, none, "x"), "ax+0 abx"},
		{"an embed's Left", embed(id(2, 1), b, none, one), "a+1 ab|<1>"},
		{"an embed's Right", embed(id(2, 1), none, b, one), "a+1 a|<1>|b"},
		{"a mark's From", mark(id(2, 1), 1, ahead(b), end, "k", one), "a+1 a|b[k=1]"},
		{"a mark's To", mark(id(2, 1), 1, begin, ahead(b), "k", one), "a+1 a[k=1]|b"},
		{"a mark's both", mark(id(2, 1), 1, ahead(a), behind(b), "k", one), "a+1 ab[k=1]"},
		{"a mark's From, known first", mark(id(2, 1), 1, ahead(a), end, "k", one), "a[k=1]+0 ab[k=1]"},
		{"a mark that names none", mark(id(2, 1), 1, begin, end, "k", one), "a[k=1]+0 ab[k=1]"},
		{"a set in the root", set(id(2, 1), 1, none, "k", one), "a{k=1}+0 ab{k=1}"},
	} {
		d := of(t, up(x.o))
		news(t, d, x.what, up(at(1, 1, "a")))
		got := shown(d.View()) + "+" + fmt.Sprint(d.Waiting())
		news(t, d, x.what, up(at(1, 2, "b")))
		got += " " + shown(d.View())
		if got != x.want || d.Waiting() != 0 {
			t.Errorf("%s: %s, not %s", x.what, got, x.want)
		}
	}
	d := of(t, up(set(id(2, 1), 1, b, "k", one)), up(at(1, 1, "a")))
	checkWaiting(t, "a set's Parent", d, 1)
	news(t, d, "a set's Parent", up(set(b, 1, none, "m", aMap)))
	checkWaiting(t, "a set's Parent", d, 0)
	checkShown(t, "a set's Parent", d, "a{m=map{k=1}}")
}

// TestP13_1WaitsForEach: one that names unknown ids of several others is ready when all are known, in whichever order they come.
func TestP13_1WaitsForEach(t *testing.T) {
	o := mark(id(9, 1), 1, ahead(id(2, 1)), behind(id(3, 1)), "k", integer(1))
	for _, l := range [][]uint64{{2, 3}, {3, 2}} {
		d := of(t, up(o, text(id(9, 2), none, none, "z")))
		news(t, d, "the first", up(at(l[0], 1, "x")))
		checkWaiting(t, "the first", d, 2)
		known(t, d, "again", up(o))
		news(t, d, "the second", up(at(l[1], 1, "x")))
		checkWaiting(t, "the second", d, 0)
		checkShown(t, "both", d, "xx[k=1]|z")
	}
}

// TestP13_1OneBehindTheOther: what makes one ready makes others ready by that.
func TestP13_1OneBehindTheOther(t *testing.T) {
	l := []api.Op{
		at(1, 1, "a"), text(id(2, 1), id(1, 1), none, "b"), text(id(3, 1), id(2, 1), none, "c"), at(3, 2, "d"), text(id(2, 2), id(3, 2), none, "e"),
		text(id(1, 2), id(2, 2), none, "f"), mark(id(4, 1), 1, ahead(id(1, 1)), behind(id(1, 2)), "k", integer(1)), set(id(4, 2), 1, none, "m", aMap), set(id(5, 1), 1, id(4, 2), "n", integer(2)),
	}
	d := doc.New()
	for i := len(l) - 1; i > 0; i-- {
		news(t, d, "one that waits", up(l[i]))
		checkWaiting(t, "those that wait", d, len(l)-i)
	}
	checkShown(t, "all but the first", d, "")
	news(t, d, "the first", up(l[0]))
	checkWaiting(t, "all", d, 0)
	checkShown(t, "all", d, "abcdef[k=1]{m=map{n=2}}")

	slices.Reverse(l)
	d = of(t, up(l...))
	checkWaiting(t, "in one update, backwards", d, 0)
	checkShown(t, "in one update, backwards", d, "abcdef[k=1]{m=map{n=2}}")
}

// TestP13_1OneForMany: what several ask for.
func TestP13_1OneForMany(t *testing.T) {
	d := doc.New()
	for client := uint64(2); client < 40; client++ {
		news(t, d, "one that waits", up(text(id(client, 1), id(1, 1+client%5), none, "x"), at(client, 2, "y")))
	}
	for clock := uint64(1); clock <= 5; clock++ {
		was := d.Waiting()
		news(t, d, "one that they ask for", up(at(1, clock, "a")))
		if n := was - d.Waiting(); n < 14 || n > 16 {
			t.Errorf("clock %d: %d wait no more", clock, n)
		}
	}
	checkWaiting(t, "all", d, 0)
}

// TestP13_1KnownOrWaiting: operations of which something is known, or waits.
func TestP13_1KnownOrWaiting(t *testing.T) {
	whole := at(1, 1, "abcdefgh")
	cut := func(from, to int) api.Op {
		o, _ := ops.Cut(whole, from, to)
		return o
	}
	d := of(t, up(cut(0, 3)))
	known(t, d, "known wholly", up(cut(0, 3)))
	known(t, d, "a piece of what is known", up(cut(1, 2)))
	news(t, d, "its beginning is known", up(cut(0, 4)))
	checkShown(t, "its beginning is known", d, "abcd")
	news(t, d, "its middle is known", up(cut(2, 5)))
	checkShown(t, "its middle is known", d, "abcde")
	known(t, d, "several pieces of what is known", up(cut(0, 5), cut(1, 4), cut(4, 5)))
	sameOps(t, "Ops", d.Ops(), cut(0, 5))

	d = of(t, up(cut(2, 4)))
	known(t, d, "waits already", up(cut(2, 4)))
	known(t, d, "a piece of what waits", up(cut(3, 4)))
	checkWaiting(t, "waits already", d, 2)
	news(t, d, "its beginning waits", up(cut(3, 6)))
	checkWaiting(t, "its beginning waits", d, 4)
	news(t, d, "its end waits", up(cut(1, 3)))
	checkWaiting(t, "its end waits", d, 5)
	news(t, d, "with a gap", up(cut(7, 8)))
	checkWaiting(t, "with a gap", d, 6)
	known(t, d, "over several that wait", up(cut(1, 6)))
	news(t, d, "over a gap", up(cut(3, 8)))
	checkWaiting(t, "over a gap", d, 7)
	sameOps(t, "Pending", d.Pending(), cut(1, 8))
	news(t, d, "its end waits, the rest is ready", up(cut(0, 5)))
	checkWaiting(t, "all is ready", d, 0)
	checkShown(t, "all is ready", d, "abcdefgh")
	sameOps(t, "Ops", d.Ops(), whole)

	d = of(t, up(cut(0, 2), cut(5, 6)))
	news(t, d, "its beginning is known, its middle waits", up(whole))
	checkWaiting(t, "all", d, 0)
	sameOps(t, "Ops", d.Ops(), whole)

	d = of(t, up(text(id(2, 1), id(1, 1), none, "xyz")))
	known(t, d, "what waits for others", up(text(id(2, 1), id(1, 1), none, "xy"), at(2, 2, "y")))
	news(t, d, "more than waits for others", up(text(id(2, 1), id(1, 1), none, "xyzw")))
	checkWaiting(t, "more than waits for others", d, 4)
	news(t, d, "what it waits for", up(at(1, 1, "a")))
	checkShown(t, "what it waits for", d, "axyzw")
	checkWaiting(t, "what it waits for", d, 0)
}

func TestP13_1WholeLengths(t *testing.T) {
	long := at(1, 1, strings.Repeat("é\U0001F600", full/2))
	d := doc.New()
	tail, _ := ops.Cut(long, full-1, full)
	news(t, d, "the last rune", up(tail, at(1, full+1, "z")))
	checkWaiting(t, "the last rune", d, 2)
	news(t, d, "the whole", up(long))
	checkWaiting(t, "the whole", d, 0)
	sameOps(t, "Ops", d.Ops(), long, at(1, full+1, "z"))
	checkShown(t, "the whole", d, long.Text+"z")
	last := at(top, top, "x")
	news(t, d, "the last id of all", up(last))
	sameOps(t, "Pending", d.Pending(), last)
}

func TestP13_1Turns(t *testing.T) {
	d := of(t, up(at(1, 1, "abc")))
	wrong := []api.Turn{{}, turn(0, 1, 2, 1), turn(1, 0, 2, 1), turn(1, 2, 2, 1), turn(1, 3, 2, 1), turn(1, 1, 2, 0), turn(1, 1, 2, top+1), turn(1, 1, top+2, 1), turn(top+1, 1, 2, 1)}
	known(t, d, "wrong ones", turning(wrong...))
	same(t, "wrong ones", d.Turns(), nil)
	for place := range len(wrong) + 1 {
		d := of(t, up(at(1, 1, "abc")))
		news(t, d, "a right one among wrong ones", turning(slices.Insert(slices.Clone(wrong), place, turn(1, 2, 3, 1))...))
		same(t, "a right one among wrong ones", d.Turns(), []api.Turn{turn(1, 2, 3, 1)})
		checkShown(t, "a right one among wrong ones", d, "ac")
	}
	news(t, d, "of ids that aren't known", turning(turn(1, 3, 6, 1), turn(7, 1, 2, 3)))
	checkShown(t, "of ids that aren't known", d, "ab")
	news(t, d, "these become known", up(at(1, 4, "defg"), at(7, 1, "xy")))
	checkShown(t, "these become known", d, "abfgy")
	known(t, d, "the same", turning(turn(1, 3, 6, 1)))
	known(t, d, "parts of the same", turning(turn(1, 5, 6, 1), turn(1, 3, 5, 1), turn(7, 1, 2, 3)))
	known(t, d, "less", turning(turn(7, 1, 2, 2), turn(7, 1, 2, 1)))
	news(t, d, "more", turning(turn(1, 4, 5, 2), turn(7, 1, 2, 1)))
	checkShown(t, "more", d, "abdfgy")
	same(t, "more", d.Turns(), []api.Turn{turn(1, 3, 4, 1), turn(1, 4, 5, 2), turn(1, 5, 6, 1), turn(7, 1, 2, 3)})
	known(t, d, "less of some of them", turning(turn(1, 3, 6, 1)))
	news(t, d, "some above, some below", turning(turn(1, 1, 8, 1)))
	checkShown(t, "some above, some below", d, "dy")
	news(t, d, "all of them", turning(turn(1, 1, top+1, top)))
	checkShown(t, "all of them", d, "y")
	same(t, "all of them", d.Turns(), []api.Turn{turn(1, 1, top+1, top), turn(7, 1, 2, 3)})
}

// TestP13_1News: true just where what Vector, Turns or Waiting tell has changed.
func TestP13_1News(t *testing.T) {
	d := doc.New()
	known(t, d, "nothing", api.Update{})
	known(t, d, "empty lists", api.Update{Ops: []api.Op{}, Turns: []api.Turn{}})
	news(t, d, "known", up(at(1, 1, "a")))
	known(t, d, "known again", up(at(1, 1, "a")))
	news(t, d, "waits", up(at(1, 3, "c")))
	known(t, d, "waits again", up(at(1, 3, "c")))
	news(t, d, "known, and as much waits", up(at(1, 2, "b"), at(1, 5, "e")))
	checkWaiting(t, "known, and as much waits", d, 1)
	news(t, d, "void", up(text(id(2, 1), id(1, 2), id(1, 1), "v")))
	known(t, d, "void again", up(text(id(2, 1), id(1, 2), id(1, 1), "v")))
	news(t, d, "a turn of what isn't seen", turning(turn(2, 1, 2, 1)))
	known(t, d, "that turn again", turning(turn(2, 1, 2, 1)))
	news(t, d, "an even turn", turning(turn(3, 1, 2, 2)))
	known(t, d, "the one below", turning(turn(3, 1, 2, 1)))
	news(t, d, "an old operation, a new turn", api.Update{Ops: []api.Op{at(1, 1, "a")}, Turns: []api.Turn{turn(1, 1, 2, 1)}})
	news(t, d, "a new operation, an old turn", api.Update{Ops: []api.Op{at(1, 4, "d")}, Turns: []api.Turn{turn(1, 1, 2, 1)}})
	known(t, d, "both old", api.Update{Ops: []api.Op{at(1, 4, "d"), at(1, 5, "e")}, Turns: []api.Turn{turn(1, 1, 2, 1), turn(3, 1, 2, 2)}})
	news(t, d, "one new among old ones", up(at(1, 1, "abc"), at(1, 6, "f"), at(1, 4, "d")))
	news(t, d, "a new turn ahead of an old one", turning(turn(1, 2, 3, 1), turn(3, 1, 2, 2)))
	news(t, d, "a new turn behind an old one", turning(turn(1, 2, 3, 1), turn(3, 1, 2, 3)))
}

// TestP13_2Void: each way of being void; what names a void one is, too.
func TestP13_2Void(t *testing.T) {
	one := integer(1)
	ground := up(at(1, 1, "abc"), set(id(1, 4), 1, none, "m", aMap), set(id(1, 5), 2, none, "n", one), mark(id(1, 6), 3, begin, end, "k", one), text(id(8, 1), id(1, 2), id(1, 1), "vv"))
	for _, x := range []struct {
		what string
		o    api.Op
		void bool
	}{
		{"a text between", text(id(2, 1), id(1, 1), id(1, 2), "xyz"), false},
		{"a text between those that aren't neighbours", text(id(2, 1), id(1, 1), id(1, 3), "x"), false},
		{"a text whose Right is ahead of its Left", text(id(2, 1), id(1, 3), id(1, 1), "xyz"), true},
		{"a text whose Right is its Left", text(id(2, 1), id(1, 2), id(1, 2), "x"), true},
		{"a text whose Left is a set", text(id(2, 1), id(1, 4), none, "x"), true},
		{"a text whose Right is a mark", text(id(2, 1), none, id(1, 6), "x"), true},
		{"a text whose Left is void", text(id(2, 1), id(8, 1), none, "x"), true},
		{"a text whose Left is void, its end", text(id(2, 1), id(8, 2), none, "x"), true},
		{"a text whose Right is void", text(id(2, 1), id(1, 1), id(8, 1), "x"), true},
		{"a text whose Left is its client's, not there", text(id(2, 1), id(2, 9), none, "x"), true},
		{"a text whose Right is its client's, not there", text(id(2, 1), none, id(2, 9), "x"), true},
		{"an embed between", embed(id(2, 1), id(1, 1), id(1, 2), one), false},
		{"an embed whose Right is ahead of its Left", embed(id(2, 1), id(1, 3), id(1, 1), one), true},
		{"an embed whose Left is void", embed(id(2, 1), id(8, 2), none, one), true},
		{"an embed whose Left is a set", embed(id(2, 1), id(1, 5), none, one), true},
		{"a mark over units", mark(id(2, 1), 1, ahead(id(1, 1)), behind(id(1, 2)), "q", one), false},
		{"a mark over nothing", mark(id(2, 1), 1, ahead(id(1, 3)), ahead(id(1, 1)), "q", one), false},
		{"a mark from the end to the beginning", mark(id(2, 1), 1, end, begin, "q", one), false},
		{"a mark from a set", mark(id(2, 1), 1, ahead(id(1, 4)), end, "q", one), true},
		{"a mark to a mark", mark(id(2, 1), 1, begin, behind(id(1, 6)), "q", one), true},
		{"a mark from a void one", mark(id(2, 1), 1, ahead(id(8, 1)), end, "q", one), true},
		{"a mark to a void one", mark(id(2, 1), 1, begin, ahead(id(8, 2)), "q", one), true},
		{"a mark from its client's, not there", mark(id(2, 1), 1, ahead(id(2, 2)), end, "q", one), true},
		{"a mark to its client's, not there", mark(id(2, 1), 1, begin, behind(id(2, 2)), "q", one), true},
		{"a set in a map", set(id(2, 1), 1, id(1, 4), "q", one), false},
		{"a set in what is no map", set(id(2, 1), 1, id(1, 5), "q", one), true},
		{"a set in a unit", set(id(2, 1), 1, id(1, 1), "q", aMap), true},
		{"a set in a mark", set(id(2, 1), 1, id(1, 6), "q", one), true},
		{"a set in a void one", set(id(2, 1), 1, id(8, 1), "q", one), true},
		{"a set in its client's, not there", set(id(2, 1), 1, id(2, 2), "q", one), true},
	} {
		d := of(t, ground)
		was := allOf(d)
		news(t, d, x.what, up(x.o))
		checkWaiting(t, x.what, d, 0)
		n := uint64(ops.Len(x.o))
		for clock := range n {
			if d.Void(id(2, 1+clock)) != x.void {
				t.Errorf("%s: Void of its clock %d: %t", x.what, 1+clock, !x.void)
			}
		}
		if d.Void(id(2, 1+n)) || d.Void(id(1, 1)) || !d.Void(id(8, 1)) || !d.Void(id(8, 2)) || d.Void(id(8, 3)) {
			t.Errorf("%s: others are void, or not", x.what)
		}
		same(t, x.what+": Vector", d.Vector(), []api.Clock{{Client: 1, Clock: 6}, {Client: 2, Clock: n}, {Client: 8, Clock: 2}})
		if !x.void {
			continue
		}
		got := allOf(d) // it does nothing, but that it is known
		got.vector, got.ops, got.stamp = was.vector, was.ops, was.stamp
		sameAll(t, x.what, got, was)
	}
}

// TestP13_2VoidForGood: what comes later makes no void one whole, and what names it is void whenever it comes.
func TestP13_2VoidForGood(t *testing.T) {
	one := integer(1)
	d := of(t, up(
		mark(id(1, 1), 1, ahead(id(1, 4)), end, "k", one), text(id(1, 2), id(1, 4), none, "v"), set(id(1, 3), 1, id(1, 6), "k", one),
		text(id(1, 4), none, none, "ab"), set(id(1, 6), 1, none, "m", aMap),
	))
	checkShown(t, "its client's, that came later", d, "ab{m=map}")
	for clock, want := range []bool{false, true, true, true, false, false, false, false} {
		if got := d.Void(id(1, uint64(clock))); got != want {
			t.Errorf("its client's, that came later: Void of %d: %t", clock, got)
		}
	}
	d = of(t, up(text(id(3, 1), id(2, 2), none, "z"), at(3, 2, "z"), mark(id(4, 1), 1, begin, behind(id(3, 1)), "k", one)), up(at(1, 1, "ab")))
	checkWaiting(t, "what names a void one", d, 3)
	news(t, d, "a void one", up(text(id(2, 1), id(1, 2), id(1, 1), "vw")))
	checkWaiting(t, "what names a void one", d, 0)
	checkShown(t, "what names a void one", d, "ab")
	for _, x := range []api.Id{id(2, 1), id(2, 2), id(3, 1), id(3, 2), id(4, 1)} {
		if !d.Void(x) {
			t.Errorf("what names a void one: %v isn't void", x)
		}
	}
	news(t, d, "one behind void ones", up(text(id(3, 3), id(1, 1), id(1, 2), "-")))
	checkShown(t, "one behind void ones", d, "a-b")
	if d.Void(id(3, 3)) {
		t.Error("one behind void ones is void")
	}
}

// TestP13_2VoidInPieces: in whichever pieces it comes, all of it is void.
func TestP13_2VoidInPieces(t *testing.T) {
	ground, void := up(at(1, 1, "ab")), text(id(2, 1), id(1, 2), id(1, 1), "vwxyz")
	want := allOf(of(t, ground, up(void)))
	for i := 1; i < 5; i++ {
		head, _ := ops.Cut(void, 0, i)
		tail, _ := ops.Cut(void, i, 5)
		d := of(t, ground, up(tail), up(head))
		sameAll(t, fmt.Sprint("cut at ", i), allOf(d), want)
		for clock := uint64(1); clock <= 5; clock++ {
			if !d.Void(id(2, clock)) {
				t.Errorf("cut at %d: %d isn't void", i, clock)
			}
		}
	}
}

// TestP13_2DeletedOnesAreThere: what is deleted, and a hidden map, can be named as any other.
func TestP13_2DeletedOnesAreThere(t *testing.T) {
	d := of(t, up(at(1, 1, "abc"), set(id(1, 4), 1, none, "m", aMap)), turning(turn(1, 1, 9, 1)))
	checkShown(t, "all is deleted", d, "")
	news(t, d, "what names them", up(
		text(id(2, 1), id(1, 1), id(1, 2), "x"), embed(id(2, 2), id(1, 3), none, null),
		mark(id(2, 3), 1, ahead(id(1, 1)), behind(id(1, 2)), "k", integer(1)), set(id(2, 4), 1, id(1, 4), "n", integer(2)),
	))
	checkShown(t, "what names them", d, "x[k=1]|<null>")
	news(t, d, "shown again", turning(turn(1, 1, 9, 2)))
	checkShown(t, "shown again", d, "axb[k=1]|c|<null>{m=map{n=2}}")
}

// TestP13_1UnlikeOnesEnd: nothing is promised of operations that tell one id and are unlike, but that the calls end and don't panic.
func TestP13_1UnlikeOnesEnd(t *testing.T) {
	l := []api.Op{
		at(1, 1, "abc"), at(1, 2, "xyz"), embed(id(1, 2), id(2, 1), none, null), set(id(1, 1), 1, id(2, 2), "k", aMap), mark(id(1, 3), 1, ahead(id(2, 1)), end, "k", null),
		text(id(2, 1), id(1, 4), none, "rs"), text(id(2, 1), none, id(1, 1), "t"), text(id(2, 2), id(1, 1), id(1, 3), "uvw"), set(id(2, 2), 1, none, "k", aMap), at(1, 4, "q"),
	}
	for i := range l {
		for k := range l {
			for n := range l {
				d := of(t, up(l[i], l[k]), turning(turn(1, 2, 4, 1)), up(l[n]))
				c := d.Copy()
				tell(t, c, up(l...))
				allOf(c)
				allOf(d)
			}
		}
	}
}

// TestP13_1ManyWait: many clients, each of which waits for the next one; many clocks of one, backwards; many who wait for one.
func TestP13_1ManyWait(t *testing.T) {
	const many = api.MaxOps
	var chain []api.Op
	for client := uint64(1); client < many; client++ {
		chain = append(chain, text(id(client, 1), id(client+1, 1), none, "x"))
	}
	d := of(t, up(chain...))
	checkWaiting(t, "a chain", d, many-1)
	news(t, d, "its end", up(at(many, 1, "x")))
	checkWaiting(t, "a chain", d, 0)

	d = doc.New()
	for clock := uint64(many); clock > 0; clock-- {
		tell(t, d, up(at(1, clock, "x")))
	}
	checkWaiting(t, "backwards", d, 0)

	d = doc.New()
	for client := uint64(2); client < many; client++ {
		tell(t, d, up(text(id(client, 1), id(1, many), none, "x")))
	}
	for clock := uint64(1); clock <= many; clock++ {
		checkWaiting(t, "for one", d, many-2)
		tell(t, d, up(at(1, clock, "x")))
	}
	checkWaiting(t, "for one", d, 0)
}

// TestP13_1ManyTurns: units that are deleted one by one, no two of them neighbours.
func TestP13_1ManyTurns(t *testing.T) {
	const many = api.MaxOps
	d := doc.New()
	for clock := uint64(1); clock < 2*many; clock += full {
		tell(t, d, up(at(1, clock, strings.Repeat("x", full))))
	}
	for i := range uint64(many) {
		news(t, d, "a turn", turning(turn(1, 1+2*i, 2+2*i, 1)))
	}
	if n := len(d.Turns()); n != many || len(d.Dels()) != many || len(d.Units()) != many {
		t.Errorf("%d turns, %d deleted, %d units", n, len(d.Dels()), len(d.Units()))
	}
	news(t, d, "the others", turning(turn(1, 1, 2*many+1, 1)))
	same(t, "all", d.Turns(), []api.Turn{turn(1, 1, 2*many+1, 1)})
	checkShown(t, "all", d, "")
}
