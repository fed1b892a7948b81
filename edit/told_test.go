package edit_test

import (
	"fmt"
	"math"
	"slices"
	"strings"
	"testing"

	"quire/api"
	"quire/doc"
	"quire/edit"
	"quire/view"
)

func TestP15_1TheChaptersExample(t *testing.T) {
	d := doc.New()
	tells(t, "the chapter's", d, 7, inserting(0, "ab"), up(text(id(7, 1), none, none, "ab")))
	tells(t, "an embed there", d, 7, embedding(0, null), up(embed(id(7, 1), none, none, null)))
	does(t, d, 7, inserting(0, "ab"))
	checkText(t, d, "t \"ab\"\n")
}

func checkText(t *testing.T, d *doc.Doc, want string) {
	t.Helper()
	if got := view.Text(d.View()); got != want {
		t.Errorf("P15.2: %q, not %q", got, want)
	}
}

// TestP15_1Origins: Left is the unit ahead that is shown, Right whatever stands right behind that, deleted or not.
func TestP15_1Origins(t *testing.T) {
	abcdef := text(id(1, 1), none, none, "abcdef")
	within := text(id(2, 1), id(1, 3), id(1, 4), "xy")
	type origins struct{ left, right api.Id }
	for _, x := range []struct {
		what string
		u    []api.Update
		want []origins // of each place
	}{
		{"nothing", nil, []origins{{none, none}}},
		{"one unit", []api.Update{up(text(id(1, 1), none, none, "a"))}, []origins{{none, id(1, 1)}, {id(1, 1), none}}},
		{"a text", []api.Update{up(text(id(1, 1), none, none, "abc"))}, []origins{{none, id(1, 1)}, {id(1, 1), id(1, 2)}, {id(1, 2), id(1, 3)}, {id(1, 3), none}}},
		{"embeds", []api.Update{up(embed(id(1, 1), none, none, null), embed(id(1, 2), none, id(1, 1), null))}, []origins{{none, id(1, 2)}, {id(1, 2), id(1, 1)}, {id(1, 1), none}}},
		{"a text within another", []api.Update{up(abcdef, within)}, []origins{{none, id(1, 1)}, {id(1, 1), id(1, 2)}, {id(1, 2), id(1, 3)}, {id(1, 3), id(2, 1)}, {id(2, 1), id(2, 2)}, {id(2, 2), id(1, 4)}, {id(1, 4), id(1, 5)}, {id(1, 5), id(1, 6)}, {id(1, 6), none}}},
		{"the first deleted", []api.Update{up(abcdef), turning(turn(1, 1, 5, 1))}, []origins{{none, id(1, 1)}, {id(1, 5), id(1, 6)}, {id(1, 6), none}}},
		{"the last deleted", []api.Update{up(abcdef), turning(turn(1, 3, 7, 1))}, []origins{{none, id(1, 1)}, {id(1, 1), id(1, 2)}, {id(1, 2), id(1, 3)}}},
		{"those in the midst deleted", []api.Update{up(abcdef), turning(turn(1, 2, 6, 1))}, []origins{{none, id(1, 1)}, {id(1, 1), id(1, 2)}, {id(1, 6), none}}},
		{"ahead, between and behind", []api.Update{up(abcdef), turning(turn(1, 1, 2, 1), turn(1, 3, 5, 7), turn(1, 6, 7, 1))}, []origins{{none, id(1, 1)}, {id(1, 2), id(1, 3)}, {id(1, 5), id(1, 6)}}},
		{"all deleted", []api.Update{up(abcdef, within), turning(turn(1, 1, 7, 1), turn(2, 1, 3, 1))}, []origins{{none, id(1, 1)}}},
		{"all but one of another's", []api.Update{up(abcdef, within), turning(turn(1, 1, 7, 1), turn(2, 1, 2, 1))}, []origins{{none, id(1, 1)}, {id(2, 2), id(1, 4)}}},
		{"a deleted text of another's right behind", []api.Update{up(abcdef, within), turning(turn(2, 1, 3, 1))}, []origins{{none, id(1, 1)}, {id(1, 1), id(1, 2)}, {id(1, 2), id(1, 3)}, {id(1, 3), id(2, 1)}, {id(1, 4), id(1, 5)}, {id(1, 5), id(1, 6)}, {id(1, 6), none}}},
		{"shown again", []api.Update{up(text(id(1, 1), none, none, "abc")), turning(turn(1, 1, 4, 1), turn(1, 2, 3, 2))}, []origins{{none, id(1, 1)}, {id(1, 2), id(1, 3)}}},
		{"void ones, and what waits", []api.Update{up(text(id(1, 1), none, none, "ab"), text(id(2, 1), id(1, 2), id(1, 1), "v"), text(id(3, 2), none, none, "w"))}, []origins{{none, id(1, 1)}, {id(1, 1), id(1, 2)}, {id(1, 2), none}}},
	} {
		d := of(t, x.u...)
		for at, o := range x.want {
			what := fmt.Sprintf("%s: At %d", x.what, at)
			tells(t, what, d, 9, inserting(at, "é€"), up(text(id(9, 1), o.left, o.right, "é€")))
			tells(t, what, d, 9, embedding(at, words("e")), up(embed(id(9, 1), o.left, o.right, words("e"))))
			does(t, d.Copy(), 9, inserting(at, "é€"))
			does(t, d.Copy(), 9, embedding(at, words("e")))
		}
		fails(t, x.what, d, 9, inserting(len(x.want), "x"), api.ErrEditPlace)
	}
}

// rightValues: what embeds, marks and sets take.
func rightValues() []api.Value {
	return []api.Value{
		null, boolean(0), boolean(1), integer(0), integer(math.MinInt64), integer(math.MaxInt64), float(0), float(math.Copysign(0, -1)), float(1.5), float(math.Inf(1)), float(math.Inf(-1)), floatOf(1),
		floatOf(theNaN), floatOf(theNaN + 7), floatOf(0x7FF0000000000001), floatOf(0xFFF8000000000000), words(""), words("é\x00"), words(strings.Repeat("a", api.MaxString)), words(strings.Repeat("é", api.MaxString/2)),
	}
}

// TestP15_1Values: they are told as they are, but of any NaN the one.
func TestP15_1Values(t *testing.T) {
	d := abc(t)
	for _, v := range rightValues() {
		what := fmt.Sprintf("%.40v", v)
		tells(t, what, d, 2, embedding(1, v), up(embed(id(2, 1), id(1, 2), id(1, 3), oneNaN(v))))
		tells(t, what, d, 2, marking(1, 2, "k", v), up(mark(id(2, 1), 1, id(1, 4), id(1, 5), "k", oneNaN(v))))
		tells(t, what, d, 2, setting("k", v), up(set(id(2, 1), 1, none, "k", oneNaN(v))))
		c := d.Copy()
		does(t, c, 2, embedding(1, v))
		does(t, c, 2, marking(0, 3, "k", v))
		does(t, c, 2, setting("k", v))
	}
}

// TestP15_1FieldsThatSayNothing: those that a kind doesn't use, whatever is in them.
func TestP15_1FieldsThatSayNothing(t *testing.T) {
	d := abc(t)
	filled := func(kind int) api.Edit {
		return api.Edit{Kind: kind, At: math.MinInt, N: -1, Text: "\xFF", V: api.Value{Kind: -1, F: math.NaN()}, Key: "", Path: []string{"no", ""}}
	}
	e := filled(api.EditInsert)
	e.At, e.Text = 1, "x"
	tells(t, "an insertion", d, 2, e, up(text(id(2, 1), id(1, 2), id(1, 3), "x")))
	e = filled(api.EditEmbed)
	e.At, e.V = 1, integer(3)
	tells(t, "an embed", d, 2, e, up(embed(id(2, 1), id(1, 2), id(1, 3), integer(3))))
	e = filled(api.EditDelete)
	e.At, e.N = 1, 1
	tells(t, "a deletion", d, 2, e, turning(turn(1, 4, 5, 1)))
	e = filled(api.EditMark)
	e.At, e.N, e.Key, e.V = 1, 2, "k", integer(3)
	tells(t, "a mark", d, 2, e, up(mark(id(2, 1), 1, id(1, 4), id(1, 5), "k", integer(3))))
	e = filled(api.EditSet)
	e.Key, e.V, e.Path = "k", integer(3), nil
	tells(t, "a set", d, 2, e, up(set(id(2, 1), 1, none, "k", integer(3))))
}

// TestP15_1Marks: from ahead of the first unit to behind the last one, deleted ones between or not.
func TestP15_1Marks(t *testing.T) {
	d := of(t, up(text(id(1, 1), none, none, "abcd"), embed(id(2, 1), id(1, 2), id(1, 3), null)), turning(turn(1, 2, 3, 1))) // a (b) e c d
	units := []api.Id{id(1, 1), id(2, 1), id(1, 3), id(1, 4)}
	for at := range units {
		for n := 1; at+n <= len(units); n++ {
			for _, v := range []api.Value{integer(1), null} {
				tells(t, fmt.Sprint(at, ", ", n), d, 1, marking(at, n, "k", v), up(mark(id(1, 5), 1, units[at], units[at+n-1], "k", v)))
				c := d.Copy()
				does(t, c, 1, marking(0, 4, "k", integer(7)))
				does(t, c, 3, marking(at, n, "k", v))
				does(t, c, 2, marking(at, n, "j", v))
			}
		}
	}
}

// TestP15_1Turns: of each unit one more than its own, of others none, in ids.Turns' form.
func TestP15_1Turns(t *testing.T) {
	clients := []api.Update{
		up(text(id(3, 1), none, none, "abcd"), text(id(1, 1), id(3, 2), id(3, 3), "xy"), embed(id(top, 1), id(1, 1), id(1, 2), null)), // a b x e y c d
		turning(turn(3, 2, 3, 4), turn(3, 3, 4, 2), turn(3, 4, 5, 2), turn(1, 2, 3, top-1), turn(top, 1, 2, 8)),
	}
	long := up(text(id(1, 1), none, none, "abcdefgh"))
	for _, x := range []struct {
		what  string
		u     []api.Update
		at, n int
		want  []api.Turn
	}{
		{"one unit", []api.Update{long}, 2, 1, []api.Turn{turn(1, 3, 4, 1)}},
		{"several", []api.Update{long}, 2, 3, []api.Turn{turn(1, 3, 6, 1)}},
		{"all", []api.Update{long}, 0, 8, []api.Turn{turn(1, 1, 9, 1)}},
		{"turned alike", []api.Update{long, turning(turn(1, 2, 7, 2))}, 2, 3, []api.Turn{turn(1, 3, 6, 3)}},
		{"some turned ahead", []api.Update{long, turning(turn(1, 1, 4, 2))}, 2, 3, []api.Turn{turn(1, 3, 4, 3), turn(1, 4, 6, 1)}},
		{"some turned behind", []api.Update{long, turning(turn(1, 4, 9, 2))}, 2, 3, []api.Turn{turn(1, 3, 4, 1), turn(1, 4, 6, 3)}},
		{"one turned in the midst", []api.Update{long, turning(turn(1, 4, 5, 6))}, 1, 6, []api.Turn{turn(1, 2, 4, 1), turn(1, 4, 5, 7), turn(1, 5, 8, 1)}},
		{"each turned its own way", []api.Update{long, turning(turn(1, 2, 3, 2), turn(1, 3, 4, 4), turn(1, 4, 5, 6))}, 0, 5, []api.Turn{turn(1, 1, 2, 1), turn(1, 2, 3, 3), turn(1, 3, 4, 5), turn(1, 4, 5, 7), turn(1, 5, 6, 1)}},
		{"deleted ones between", []api.Update{long, turning(turn(1, 3, 5, 1))}, 1, 3, []api.Turn{turn(1, 2, 3, 1), turn(1, 5, 7, 1)}},
		{"deleted ones ahead and behind", []api.Update{long, turning(turn(1, 1, 3, 5), turn(1, 7, 9, 1))}, 0, 4, []api.Turn{turn(1, 3, 7, 1)}},
		{"turns that come together", []api.Update{long, turning(turn(1, 3, 4, 1), turn(1, 2, 3, 2))}, 0, 3, []api.Turn{turn(1, 1, 2, 1), turn(1, 2, 3, 3), turn(1, 4, 5, 1)}},
		{"turned as often as may be", []api.Update{long, turning(turn(1, 3, 5, top-1))}, 2, 2, []api.Turn{turn(1, 3, 5, top)}},
		{"turned nearly as often", []api.Update{long, turning(turn(1, 3, 5, top-3))}, 2, 3, []api.Turn{turn(1, 3, 5, top-2), turn(1, 5, 6, 1)}},
		{"deleted for good ones between", []api.Update{long, turning(turn(1, 3, 4, top), turn(1, 4, 5, top-2))}, 0, 4, []api.Turn{turn(1, 1, 3, 1), turn(1, 5, 7, 1)}},
		{"of several clients", clients, 1, 5, []api.Turn{turn(1, 1, 2, 1), turn(1, 2, 3, top), turn(3, 2, 3, 5), turn(3, 3, 4, 3), turn(top, 1, 2, 9)}},
		{"all of several clients", clients, 0, 7, []api.Turn{turn(1, 1, 2, 1), turn(1, 2, 3, top), turn(3, 1, 2, 1), turn(3, 2, 3, 5), turn(3, 3, 5, 3), turn(top, 1, 2, 9)}},
		{"others' turns", []api.Update{long, turning(turn(1, 9, 99, 4), turn(2, 1, 9, 6), turn(7, 1, 2, 1))}, 6, 2, []api.Turn{turn(1, 7, 9, 1)}},
		{"as the order has it, not as ids", []api.Update{up(text(id(1, 1), none, none, "b"), text(id(1, 2), none, id(1, 1), "a"), text(id(1, 3), id(1, 1), none, "c"))}, 0, 3, []api.Turn{turn(1, 1, 4, 1)}}, // a b c: 1 2, 1 1, 1 3
	} {
		d := of(t, x.u...)
		tells(t, x.what, d, 5, deleting(x.at, x.n), turning(x.want...))
		does(t, d, 5, deleting(x.at, x.n))
	}
}

// TestP15_1DeletedAgain: shown again and again, the same unit is turned ever more often.
func TestP15_1DeletedAgain(t *testing.T) {
	d := of(t, up(text(id(1, 1), none, none, "abc")))
	for n := uint64(1); n < 20; n += 2 {
		tells(t, "again", d, 2, deleting(1, 1), turning(turn(1, 2, 3, n)))
		does(t, d, 2, deleting(1, 1))
		does(t, d.Copy(), 2, deleting(0, 2))
		d.Apply(turning(turn(1, 2, 3, n+1)))
	}
}

// TestP15_1ManyUnits: a deletion of many, each of them turned otherwise than the one ahead.
func TestP15_1ManyUnits(t *testing.T) {
	d := doc.New()
	n := 4 * full
	for k := range n / full {
		does(t, d, 1, inserting(k*full, strings.Repeat("é", full)))
	}
	var turns, want []api.Turn
	for k := uint64(1); k <= uint64(n); k++ {
		turns = append(turns, turn(1, k, k+1, k%3*2))
		want = append(want, turn(1, k, k+1, k%3*2+1))
	}
	d.Apply(turning(turns...))
	tells(t, "all", d, 2, deleting(0, n), turning(want...))
	tells(t, "all but two", d, 2, deleting(1, n-2), turning(want[1:n-1]...))
	does(t, d, 2, deleting(0, n))
}

func TestP15_1Next(t *testing.T) {
	d := doc.New()
	next := func(what string, client, want uint64) {
		t.Helper()
		if got := edit.Next(d, client); got != want {
			t.Errorf("%s: Next %d: %d, not %d", what, client, got, want)
		}
	}
	for _, client := range []uint64{0, 1, 7, top, top + 1, 1 << 63, math.MaxUint64} {
		next("nothing known", client, 1)
	}
	d.Apply(up(text(id(7, 1), none, none, "é€"), text(id(top, 1), none, none, strings.Repeat("a", full)), embed(id(3, 1), none, none, null)))
	for client, want := range map[uint64]uint64{7: 3, top: full + 1, 3: 2, 0: 1, 1: 1, 2: 1, 6: 1, 8: 1, top + 1: 1, math.MaxUint64: 1} {
		next("some known", client, want)
	}
	d.Apply(up(text(id(7, 5), none, none, "late"), text(id(5, 2), none, none, "late"), text(id(6, 1), id(9, 1), none, "late")))
	for client, want := range map[uint64]uint64{7: 3, 5: 1, 6: 1, 9: 1} {
		next("some wait", client, want)
	}
	d.Apply(up(text(id(7, 3), id(7, 2), id(7, 1), "vo"), mark(id(3, 2), 1, none, none, "k", null), set(id(3, 3), 1, none, "k", null)))
	for client, want := range map[uint64]uint64{7: 9, 3: 4, 5: 1} {
		next("void ones and other kinds", client, want)
	}
	d.Apply(turning(turn(7, 1, 99, 1), turn(8, 1, 99, 1)))
	for client, want := range map[uint64]uint64{7: 9, 8: 1} {
		next("turned", client, want)
	}
}

// TestP15_1Clocks: an operation of any kind begins behind the client's last clock that is known; what waits has none.
func TestP15_1Clocks(t *testing.T) {
	d := of(t, up(text(id(1, 1), none, none, "abcdefghijkl"), text(id(5, 3), none, none, "late"), text(id(6, 1), id(9, 1), none, "late")))
	edits := []api.Edit{embedding(1, null), setting("k", null), inserting(0, "é€"), marking(0, 2, "k", null), setting("k", aMap)}
	for _, e := range edits {
		if u, errno := ask(t, d, 5, e); errno != api.OK || u.Ops[0].Id != id(5, 1) {
			t.Errorf("of a client that waits: %v: %v, %v", e, u, errno)
		}
	}
	clock := uint64(1)
	for _, e := range append(edits, edits...) {
		if u := does(t, d, 8, e); u.Ops[0].Id != id(8, clock) {
			t.Errorf("%v: %v, not clock %d", e, u, clock)
		}
		does(t, d, 8, deleting(0, 1)) // it has no clocks
		clock += uint64(max(1, len([]rune(e.Text))))
	}
	d = of(t, up(text(id(6, 1), id(9, 1), none, "late"), text(id(9, 1), none, none, "z")))
	tells(t, "behind what waited", d, 6, embedding(0, null), up(embed(id(6, 5), none, id(9, 1), null)))
}

// TestP15_2OneBehindTheOther: a writer's edits, and how the document looks.
func TestP15_2OneBehindTheOther(t *testing.T) {
	d := doc.New()
	for _, x := range []struct {
		e    api.Edit
		want string
	}{
		{inserting(0, "hello"), "t \"hello\"\n"},
		{inserting(5, " world"), "t \"hello world\"\n"},
		{inserting(0, ">"), "t \">hello world\"\n"},
		{deleting(0, 2), "t \"ello world\"\n"},
		{inserting(0, "J"), "t \"Jello world\"\n"},
		{marking(6, 5, "bold", boolean(1)), "t \"Jello \"\nt \"world\" \"bold\"=true\n"},
		{embedding(8, integer(3)), "t \"Jello \"\nt \"wo\" \"bold\"=true\ne 3 \"bold\"=true\nt \"rld\" \"bold\"=true\n"},
		{deleting(1, 6), "t \"J\"\nt \"o\" \"bold\"=true\ne 3 \"bold\"=true\nt \"rld\" \"bold\"=true\n"},
		{marking(1, 4, "bold", null), "t \"Jo\"\ne 3\nt \"rl\"\nt \"d\" \"bold\"=true\n"},
		{setting("k", integer(1)), "t \"Jo\"\ne 3\nt \"rl\"\nt \"d\" \"bold\"=true\nm \"k\"=1\n"},
		{deleting(0, 6), "m \"k\"=1\n"},
		{setting("m", aMap), "m \"k\"=1\nm \"m\"=map\n"},
		{setting("k", words("x"), "m"), "m \"k\"=1\nm \"m\"=map\n  m \"k\"=\"x\"\n"},
		{setting("k", null), "m \"m\"=map\n  m \"k\"=\"x\"\n"},
		{inserting(0, "new"), "t \"new\"\nm \"m\"=map\n  m \"k\"=\"x\"\n"},
		{setting("m", aMap), "t \"new\"\nm \"m\"=map\n"},
		{setting("m", null), "t \"new\"\n"},
	} {
		does(t, d, 4, x.e)
		checkText(t, d, x.want)
	}
}

// TestP15_2ManyAtOnePlace: insertions where many were deleted, and where others inserted at once.
func TestP15_2ManyAtOnePlace(t *testing.T) {
	one := of(t, up(text(id(1, 1), none, none, "abcdef")), turning(turn(1, 2, 6, 1)))
	two := one.Copy()
	var told []api.Update
	for n := range 12 {
		told = append(told, does(t, one, 2, inserting(1+n%2, "xy")), does(t, two, 3, inserting(1+n%3%2, "zw")))
		if n%4 == 3 {
			told = append(told, does(t, one, 2, deleting(1, 3)), does(t, two, 3, deleting(2, 2)))
			for _, u := range told {
				one.Apply(u)
			}
		}
	}
	for _, u := range slices.Backward(told) {
		two.Apply(u)
		one.Apply(u)
	}
	if !view.Same(one.View(), two.View()) {
		t.Errorf("%q, %q", view.Text(one.View()), view.Text(two.View()))
	}
	for at := range len(one.Units()) + 1 {
		does(t, one.Copy(), 4, inserting(at, "-"))
		does(t, two.Copy(), 4, embedding(at, null))
	}
}
