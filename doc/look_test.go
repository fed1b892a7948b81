package doc_test

import (
	"slices"
	"strings"
	"testing"

	"quire/api"
	"quire/doc"
	"quire/ops"
)

func TestP13_4Units(t *testing.T) {
	d := of(t, up(at(1, 1, "abc"), text(id(2, 1), id(1, 1), id(1, 2), "xy"), embed(id(3, 1), id(2, 1), id(2, 2), null), text(id(4, 1), id(1, 2), id(1, 1), "void")))
	same(t, "none deleted", d.Units(), []api.Id{id(1, 1), id(2, 1), id(3, 1), id(2, 2), id(1, 2), id(1, 3)})
	news(t, d, "some deleted", turning(turn(1, 1, 3, 1), turn(3, 1, 2, 1), turn(4, 1, 9, 2)))
	same(t, "some deleted", d.Units(), []api.Id{id(2, 1), id(2, 2), id(1, 3)})
	news(t, d, "some shown again", turning(turn(1, 2, 3, 2)))
	same(t, "some shown again", d.Units(), []api.Id{id(2, 1), id(2, 2), id(1, 2), id(1, 3)})
	news(t, d, "all deleted", turning(turn(1, 1, 9, 5), turn(2, 1, 9, 5)))
	same(t, "all deleted", d.Units(), nil)
}

// TestP13_4Runs: which units make one run.
func TestP13_4Runs(t *testing.T) {
	one, two := integer(1), integer(2)
	abc := at(1, 1, "abcdef")
	over := func(clock, stamp, from, to uint64, key string, v api.Value) api.Op {
		return mark(id(5, clock), stamp, ahead(id(1, from)), behind(id(1, to)), key, v)
	}
	for _, x := range []struct {
		what  string
		l     []api.Op
		turns []api.Turn
		want  string
	}{
		{"nothing", nil, nil, ""},
		{"one text", []api.Op{abc}, nil, "abcdef"},
		{"texts behind one another", []api.Op{abc, at(1, 7, "gh"), text(id(2, 1), id(1, 8), none, "xy")}, nil, "abcdefghxy"},
		{"a text within another", []api.Op{abc, text(id(2, 1), id(1, 2), id(1, 3), "xy")}, nil, "abxycdef"},
		{"a text of runes of each length", []api.Op{text(id(1, 1), none, none, "aé€\U0001F600\x00")}, nil, "aé€\U0001F600\x00"},
		{"deleted ones between", []api.Op{abc, text(id(2, 1), id(1, 2), id(1, 3), "xy")}, []api.Turn{turn(1, 2, 3, 1), turn(2, 1, 2, 3), turn(1, 5, 7, 1)}, "aycd"},
		{"deleted at both ends", []api.Op{abc}, []api.Turn{turn(1, 1, 2, 1), turn(1, 6, 9, 1)}, "bcde"},
		{"all deleted", []api.Op{abc}, []api.Turn{turn(1, 1, 7, 1)}, ""},
		{"a mark within a text", []api.Op{abc, over(1, 1, 2, 4, "k", one)}, nil, "a|bcd[k=1]|ef"},
		{"a mark over a whole text", []api.Op{abc, over(1, 1, 1, 6, "k", one)}, nil, "abcdef[k=1]"},
		{"a mark from the beginning to the end", []api.Op{abc, mark(id(5, 1), 1, begin, end, "k", one)}, nil, "abcdef[k=1]"},
		{"a mark over nothing", []api.Op{abc, mark(id(5, 1), 1, behind(id(1, 3)), ahead(id(1, 4)), "k", one)}, nil, "abcdef"},
		{"marks of one value that touch", []api.Op{abc, over(1, 1, 2, 3, "k", one), over(2, 2, 4, 5, "k", one)}, nil, "a|bcde[k=1]|f"},
		{"marks of unlike values that touch", []api.Op{abc, over(1, 1, 2, 3, "k", one), over(2, 2, 4, 5, "k", two)}, nil, "a|bc[k=1]|de[k=2]|f"},
		{"marks of unlike keys that overlap", []api.Op{abc, over(1, 1, 1, 3, "k", one), over(2, 2, 3, 4, "j", one)}, nil, "ab[k=1]|c[j=1][k=1]|d[j=1]|ef"},
		{"a mark over another", []api.Op{abc, over(1, 2, 2, 5, "k", one), over(2, 3, 3, 3, "k", two), over(3, 1, 4, 4, "k", two)}, nil, "a|b[k=1]|c[k=2]|de[k=1]|f"},
		{"a mark taken away", []api.Op{abc, over(1, 1, 2, 5, "k", one), over(2, 2, 3, 4, "k", null)}, nil, "a|b[k=1]|cd|e[k=1]|f"},
		{"a mark taken away that there isn't", []api.Op{abc, over(1, 2, 3, 4, "k", null)}, nil, "abcdef"},
		{"a deleted mark", []api.Op{abc, over(1, 1, 2, 5, "k", one), over(2, 2, 3, 4, "k", null)}, []api.Turn{turn(5, 2, 3, 1)}, "a|bcde[k=1]|f"},
		{"all marks deleted", []api.Op{abc, over(1, 1, 2, 5, "k", one)}, []api.Turn{turn(5, 1, 2, 1)}, "abcdef"},
		{"a mark shown again", []api.Op{abc, over(1, 1, 2, 5, "k", one)}, []api.Turn{turn(5, 1, 2, 2)}, "a|bcde[k=1]|f"},
		{"a mark whose units are deleted", []api.Op{abc, over(1, 1, 2, 5, "k", one)}, []api.Turn{turn(1, 2, 3, 1), turn(1, 5, 6, 1)}, "a|cd[k=1]|f"},
		{"unlike marks, deleted ones between", []api.Op{abc, over(1, 1, 3, 4, "k", one)}, []api.Turn{turn(1, 3, 5, 1)}, "abef"},
		{"a text put in where a mark is", []api.Op{abc, over(1, 1, 2, 5, "k", one), text(id(2, 1), id(1, 3), id(1, 4), "x")}, nil, "a|bcxde[k=1]|f"},
		{"a text put in where a mark ends", []api.Op{abc, over(1, 1, 2, 3, "k", one), text(id(2, 1), id(1, 3), id(1, 4), "x")}, nil, "a|bc[k=1]|xdef"},
		{"an embed", []api.Op{embed(id(1, 1), none, none, one)}, nil, "<1>"},
		{"an embed of null", []api.Op{embed(id(1, 1), none, none, null)}, nil, "<null>"},
		{"embeds behind one another", []api.Op{embed(id(1, 1), none, none, one), embed(id(1, 2), id(1, 1), none, one)}, nil, "<1>|<1>"},
		{"an embed within a text", []api.Op{abc, embed(id(2, 1), id(1, 3), id(1, 4), words("x"))}, nil, "abc|<\"x\">|def"},
		{"an embed at both ends", []api.Op{abc, embed(id(2, 1), none, id(1, 1), one), embed(id(2, 2), id(1, 6), none, two)}, nil, "<1>|abcdef|<2>"},
		{"a deleted embed", []api.Op{abc, embed(id(2, 1), id(1, 3), id(1, 4), one)}, []api.Turn{turn(2, 1, 2, 1)}, "abcdef"},
		{"an embed with marks", []api.Op{abc, embed(id(2, 1), id(1, 3), id(1, 4), one), over(1, 1, 3, 4, "k", two)}, nil, "ab|c[k=2]|<1>[k=2]|d[k=2]|ef"},
		{"embeds with the same marks", []api.Op{embed(id(1, 1), none, none, one), embed(id(1, 2), id(1, 1), none, two), over(1, 1, 1, 2, "k", two)}, nil, "<1>[k=2]|<2>[k=2]"},
		{"void ones", []api.Op{abc, text(id(2, 1), id(1, 3), id(1, 2), "x"), over(1, 1, 2, 3, "k", one), mark(id(2, 2), 9, ahead(id(2, 1)), end, "k", two)}, nil, "a|bc[k=1]|def"},
	} {
		d := of(t, up(x.l...), turning(x.turns...))
		checkWaiting(t, x.what, d, 0)
		checkShown(t, x.what, d, x.want)
		for _, r := range d.View().Runs {
			if r.Embed == (r.Text != "") || !r.Embed && !alike(r.V, null) {
				t.Errorf("%s: a run that isn't one: %v", x.what, r)
			}
		}
	}
}

// TestP13_4FloatsOfMarks: values that are alike as value.Same has them make one run; -0 and 0 aren't.
func TestP13_4FloatsOfMarks(t *testing.T) {
	for _, x := range []struct {
		a, b api.Value
		runs int
	}{
		{float(0), float(0), 1}, {float(0), floatOf(1 << 63), 2}, {floatOf(theNaN), floatOf(theNaN + 1), 1}, {float(1), integer(1), 2}, {floatOf(theNaN), float(1), 2},
	} {
		d := of(t, up(at(1, 1, "ab"), mark(id(2, 1), 1, ahead(id(1, 1)), behind(id(1, 1)), "k", x.a), mark(id(2, 2), 1, ahead(id(1, 2)), behind(id(1, 2)), "k", x.b)))
		if got := len(d.View().Runs); got != x.runs {
			t.Errorf("%v, %v: %d runs, not %d", x.a, x.b, got, x.runs)
		}
	}
}

func TestP13_4Map(t *testing.T) {
	d := of(t, up(at(1, 1, "a"), set(id(1, 2), 1, none, "m", aMap), set(id(1, 3), 1, id(1, 2), "n", aMap), set(id(1, 4), 2, id(1, 3), "k", words("v")), set(id(2, 1), 3, none, "b", float(1)), set(id(2, 2), 4, none, "b", null)))
	checkShown(t, "maps", d, `a{m=map{n=map{k="v"}}}`)
	news(t, d, "hidden", turning(turn(2, 2, 3, 1), turn(1, 4, 5, 1)))
	checkShown(t, "hidden", d, "a{b=f3ff0000000000000}{m=map{n=map}}")
	news(t, d, "the outer one is won over", up(set(id(2, 3), 5, none, "m", boolean(0))))
	checkShown(t, "the outer one is won over", d, "a{b=f3ff0000000000000}{m=false}")
	news(t, d, "shown again", turning(turn(2, 3, 4, 1), turn(1, 4, 5, 2), turn(2, 2, 3, 2)))
	checkShown(t, "shown again", d, `a{m=map{n=map{k="v"}}}`)
}

func TestP13_4HiddenAndShown(t *testing.T) {
	d := of(t, up(at(1, 1, "abc")))
	for n, want := range []string{"ac", "abc", "ac", "abc", "ac"} {
		news(t, d, "a turn more", turning(turn(1, 2, 3, uint64(n+1))))
		checkShown(t, "a turn more", d, want)
	}
	news(t, d, "several turns more", turning(turn(1, 2, 3, 9)))
	checkShown(t, "several turns more", d, "ac")
	known(t, d, "turns between", turning(turn(1, 2, 3, 8), turn(1, 2, 3, 6)))
	checkShown(t, "turns between", d, "ac")
	news(t, d, "the last turn", turning(turn(1, 2, 3, top)))
	checkShown(t, "the last turn", d, "ac")
}

func TestP13_4LongRuns(t *testing.T) {
	d := doc.New()
	half := strings.Repeat("é\U0001F600", full/2)
	for i := range uint64(8) {
		tell(t, d, up(at(1, 1+i*full, half)))
	}
	checkShown(t, "texts", d, strings.Repeat(half, 8))
	tell(t, d, up(mark(id(2, 1), 1, ahead(id(1, full)), behind(id(1, 7*full)), "k", integer(1))))
	v := d.View()
	if len(v.Runs) != 3 || len([]rune(v.Runs[1].Text)) != 6*full+1 || len([]rune(v.Runs[2].Text)) != full {
		t.Errorf("with a mark: %d runs", len(v.Runs))
	}
}

func TestP13_4Copy(t *testing.T) {
	d := some(t)
	want := allOf(d)
	c := d.Copy()
	sameAll(t, "a copy", allOf(c), want)
	for clock := range uint64(12) {
		for client := range uint64(10) {
			x := id(client, clock)
			a, isA := d.Get(x)
			b, isB := c.Get(x)
			if !exactOp(a, b) || isA != isB || d.Void(x) != c.Void(x) {
				t.Errorf("a copy: %v: %v, %t, not %v, %t", x, b, isB, a, isA)
			}
		}
	}
	more := []api.Update{
		up(at(3, 1, "xyzw")), up(at(9, 1, "123456789")), turning(turn(1, 1, 9, 5), turn(8, 1, 2, 8)), up(text(id(4, 1), id(1, 3), id(1, 2), "void")), up(text(id(5, 1), id(6, 6), none, "waits")),
		up(set(id(1, 10), 50, none, "m", null)), up(mark(id(1, 11), 60, begin, end, "k", integer(1))), up(at(2, 11, "more")), up(text(id(2, 15), id(1, 1), id(1, 2), "behind it")),
	}
	for _, u := range more {
		tell(t, c, u)
	}
	sameAll(t, "what its copy was told", allOf(d), want)
	if d.Void(id(4, 1)) || !c.Void(id(4, 1)) {
		t.Error("void ones are shared")
	}
	changed := allOf(c)
	for i := len(more) - 1; i >= 0; i-- {
		tell(t, d, more[i])
	}
	sameAll(t, "both were told the same", allOf(d), changed)
	news(t, d, "more", api.Update{Ops: []api.Op{at(6, 1, "abcdef"), at(5, 7, "late")}, Turns: []api.Turn{turn(1, 1, 3, 6)}})
	sameAll(t, "what its source was told", allOf(c), changed)
}

// TestP13_4CopiesThatBothGoOn: both take what the other doesn't, of the same clients, at the same places.
func TestP13_4CopiesThatBothGoOn(t *testing.T) {
	ground := []api.Update{up(mark(id(8, 1), 1, begin, end, "a", null), mark(id(8, 2), 1, begin, end, "b", null), mark(id(8, 3), 1, begin, end, "c", null)), up(at(1, 1, "ab"), text(id(2, 1), id(1, 2), id(1, 1), "v"), at(3, 9, "late"), text(id(4, 1), id(9, 1), none, "w"), text(id(5, 1), id(9, 1), none, "w")), turning(turn(1, 1, 2, 1), turn(1, 4, 5, 1))}
	one := up(text(id(2, 2), id(1, 2), id(1, 1), "one"), at(3, 13, "one"), at(3, 7, "1"), text(id(6, 1), id(9, 1), none, "o"), mark(id(1, 3), 5, begin, end, "one", integer(1)))
	two := up(text(id(2, 2), id(1, 2), none, "two"), at(3, 14, "two"), at(3, 5, "2"), text(id(7, 1), id(9, 1), none, "t"), mark(id(1, 3), 5, begin, end, "two", integer(2)))
	one.Turns, two.Turns = []api.Turn{turn(1, 6, 7, 1)}, []api.Turn{turn(1, 2, 4, 1)}
	d := of(t, ground...)
	c := d.Copy()
	tell(t, d, one)
	tell(t, c, two)
	last := up(at(9, 1, "z"), at(3, 1, "12345678"))
	tell(t, d, last)
	tell(t, c, last)
	sameAll(t, "the one", allOf(d), allOf(of(t, append(ground, one, last)...)))
	sameAll(t, "the other", allOf(c), allOf(of(t, append(ground[:len(ground):len(ground)], two, last)...)))
	if !d.Void(id(2, 4)) || c.Void(id(2, 4)) {
		t.Error("void ones are shared")
	}
}

// TestP13_4CopyOfNamesThatBecameItsOwn: texts that name ids of their own client's further on, which Join makes one with what they name; such a one alone ops.Check refuses.
func TestP13_4CopyOfNamesThatBecameItsOwn(t *testing.T) {
	for _, l := range [][]api.Op{
		{text(id(1, 1), id(1, 2), none, "a"), at(1, 2, "b")},
		{at(1, 1, "xy"), text(id(1, 3), id(1, 5), none, "ab"), at(1, 5, "cde"), embed(id(1, 8), id(1, 7), none, null), at(1, 9, "f")},
		{text(id(1, 1), id(1, full), none, "a"), at(1, 2, strings.Repeat("b", full)), at(2, 1, "z")},
	} {
		d := of(t, up(l...))
		if !slices.ContainsFunc(d.Ops(), func(o api.Op) bool { return ops.Check(o) != api.OK }) {
			t.Errorf("the test's own: %v", d.Ops())
		}
		c := d.Copy()
		sameAll(t, "a copy", allOf(c), allOf(d))
		more := up(at(1, 10, "more"), at(1, full+2, "yet more"))
		tell(t, d, more)
		tell(t, c, more)
		sameAll(t, "a copy that goes on", allOf(c), allOf(d))
	}
}
