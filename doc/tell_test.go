package doc_test

import (
	"math"
	"slices"
	"strings"
	"testing"

	"quire/api"
	"quire/doc"
	"quire/ops"
)

func TestP13_3New(t *testing.T) {
	d := doc.New()
	sameAll(t, "a new one", allOf(d), all{})
	for _, x := range []api.Id{none, id(1, 1), id(top, top), id(top+1, 1), id(1, math.MaxUint64)} {
		if o, ok := d.Get(x); ok || !exactOp(o, api.Op{}) || d.Void(x) {
			t.Errorf("%v: %v, %t, %t", x, o, ok, d.Void(x))
		}
	}
	if d.Seq() == nil || d.Maps() == nil || !d.Maps().Is(none) {
		t.Error("there is no sequence, or there are no maps")
	}
	sameAll(t, "its copy", allOf(d.Copy()), all{})
}

func TestP13_3Vector(t *testing.T) {
	d := of(t, up(at(3, 1, "ab"), at(1, 1, "c"), set(id(1, 2), 1, none, "k", null), at(2, 2, "waits"), text(id(4, 1), id(1, 1), id(1, 1), "void"), at(top, 1, "x")))
	same(t, "Vector", d.Vector(), []api.Clock{{Client: 1, Clock: 2}, {Client: 3, Clock: 2}, {Client: 4, Clock: 4}, {Client: top, Clock: 1}})
}

func TestP13_3TurnsAndDels(t *testing.T) {
	d := doc.New()
	for _, l := range [][]api.Turn{
		{turn(3, 4, 6, 1)}, {turn(1, 5, 7, 1), turn(1, 3, 5, 1)}, {turn(1, 6, 8, 2)}, {turn(1, 10, 12, 3)}, {turn(1, 8, 10, 3)}, {turn(2, 1, top+1, top)}, {turn(3, 6, 7, 3)},
	} {
		news(t, d, "turns", turning(l...))
	}
	same(t, "Turns", d.Turns(), []api.Turn{turn(1, 3, 6, 1), turn(1, 6, 8, 2), turn(1, 8, 12, 3), turn(2, 1, top+1, top), turn(3, 4, 6, 1), turn(3, 6, 7, 3)})
	same(t, "Dels", d.Dels(), []api.Range{{Client: 1, From: 3, To: 6}, {Client: 1, From: 8, To: 12}, {Client: 2, From: 1, To: top + 1}, {Client: 3, From: 4, To: 7}})
}

// TestP13_3TurnsInOneForm: turns that touch those that are known, overlap them, stand between them, are within one.
func TestP13_3TurnsInOneForm(t *testing.T) {
	old := []api.Turn{turn(1, 10, 20, 1), turn(1, 20, 30, 2), turn(1, 40, 50, 1), turn(2, 10, 20, 4)}
	for _, x := range []struct {
		what string
		l    []api.Turn
		want []api.Turn // of client 1
	}{
		{"ahead, with a gap", []api.Turn{turn(1, 1, 9, 1)}, []api.Turn{turn(1, 1, 9, 1), turn(1, 10, 20, 1), turn(1, 20, 30, 2), turn(1, 40, 50, 1)}},
		{"right ahead", []api.Turn{turn(1, 1, 10, 1)}, []api.Turn{turn(1, 1, 20, 1), turn(1, 20, 30, 2), turn(1, 40, 50, 1)}},
		{"right ahead, another one", []api.Turn{turn(1, 1, 10, 2)}, []api.Turn{turn(1, 1, 10, 2), turn(1, 10, 20, 1), turn(1, 20, 30, 2), turn(1, 40, 50, 1)}},
		{"one raised to its neighbour's", []api.Turn{turn(1, 10, 20, 2)}, []api.Turn{turn(1, 10, 30, 2), turn(1, 40, 50, 1)}},
		{"the end of one raised to its neighbour's", []api.Turn{turn(1, 15, 20, 2)}, []api.Turn{turn(1, 10, 15, 1), turn(1, 15, 30, 2), turn(1, 40, 50, 1)}},
		{"within one", []api.Turn{turn(1, 24, 26, 3)}, []api.Turn{turn(1, 10, 20, 1), turn(1, 20, 24, 2), turn(1, 24, 26, 3), turn(1, 26, 30, 2), turn(1, 40, 50, 1)}},
		{"a gap filled", []api.Turn{turn(1, 30, 40, 1)}, []api.Turn{turn(1, 10, 20, 1), turn(1, 20, 30, 2), turn(1, 30, 50, 1)}},
		{"a gap filled, like the one ahead", []api.Turn{turn(1, 30, 40, 2)}, []api.Turn{turn(1, 10, 20, 1), turn(1, 20, 40, 2), turn(1, 40, 50, 1)}},
		{"over all", []api.Turn{turn(1, 5, 60, 2)}, []api.Turn{turn(1, 5, 60, 2)}},
		{"over all, below some", []api.Turn{turn(1, 5, 60, 1)}, []api.Turn{turn(1, 5, 20, 1), turn(1, 20, 30, 2), turn(1, 30, 60, 1)}},
		{"behind", []api.Turn{turn(1, 50, 60, 1)}, []api.Turn{turn(1, 10, 20, 1), turn(1, 20, 30, 2), turn(1, 40, 60, 1)}},
		{"behind, with a gap", []api.Turn{turn(1, 51, 60, 1)}, []api.Turn{turn(1, 10, 20, 1), turn(1, 20, 30, 2), turn(1, 40, 50, 1), turn(1, 51, 60, 1)}},
		{"several, far from one another", []api.Turn{turn(1, 49, 51, 3), turn(1, 1, 2, 5), turn(1, 12, 13, 1)}, []api.Turn{turn(1, 1, 2, 5), turn(1, 10, 20, 1), turn(1, 20, 30, 2), turn(1, 40, 49, 1), turn(1, 49, 51, 3)}},
	} {
		d := of(t, turning(old...))
		news(t, d, x.what, turning(x.l...))
		same(t, x.what, d.Turns(), append(slices.Clone(x.want), turn(2, 10, 20, 4)))
	}
}

func TestP13_3Ops(t *testing.T) {
	void := text(id(2, 1), id(1, 2), id(1, 1), "vw")
	bold := mark(id(1, 4), 2, begin, end, "bold", boolean(1))
	d := of(t, up(at(2, 3, "x"), at(3, 2, "waits")), up(at(1, 2, "b")), up(void), up(at(1, 1, "a"), at(1, 3, "c")), up(bold, text(id(1, 5), id(1, 3), none, "d")), turning(turn(1, 1, 3, 1)))
	sameOps(t, "Ops", d.Ops(), at(1, 1, "abc"), bold, text(id(1, 5), id(1, 3), none, "d"), text(id(2, 1), id(1, 2), id(1, 1), "vw"), at(2, 3, "x"))

	long := at(1, 1, strings.Repeat("ab", full))
	d = doc.New()
	for i := range 2 * full / 1024 {
		o := at(1, uint64(1+1024*i), long.Text[1024*i:1024*(i+1)])
		tell(t, d, up(o))
	}
	tell(t, d, up(at(1, 2*full+1, "z")))
	sameOps(t, "Ops of a long row", d.Ops(), at(1, 1, long.Text[:full]), at(1, full+1, long.Text[full:]), at(1, 2*full+1, "z"))
}

func TestP13_3Pending(t *testing.T) {
	bold := mark(id(1, 9), 2, ahead(id(5, 5)), end, "bold", boolean(1))
	d := of(t, up(at(3, 4, "d"), bold, text(id(2, 1), id(3, 9), none, "xy")), up(at(3, 5, "ef"), at(3, 2, "b"), at(2, 2, "yz"), at(3, 9, "i")), up(at(3, 4, "defg")))
	sameOps(t, "Pending", d.Pending(), bold, text(id(2, 1), id(3, 9), none, "xyz"), at(3, 2, "b"), at(3, 4, "defg"), at(3, 9, "i"))
	checkWaiting(t, "all", d, 1+3+1+4+1)
	news(t, d, "some become known", up(at(3, 1, "ab")))
	sameOps(t, "Pending, some known", d.Pending(), bold, text(id(2, 1), id(3, 9), none, "xyz"), at(3, 4, "defg"), at(3, 9, "i"))
	news(t, d, "more become known", up(at(3, 1, "abcdefgh")))
	sameOps(t, "Pending, more known", d.Pending(), bold)
	checkWaiting(t, "more known", d, 1)

	d = doc.New()
	long := strings.Repeat("ab", full)
	tell(t, d, up(at(1, 2+full, long[:full]), at(1, 2, long[:full])))
	sameOps(t, "Pending of a long row", d.Pending(), at(1, 2, long[:full]), at(1, 2+full, long[:full]))
	tell(t, d, up(at(1, 1002+2*full, "c"), at(1, 1502, long[:full])))
	sameOps(t, "Pending with a gap", d.Pending(), at(1, 2, long[:full]), at(1, 2+full, long[:full]), at(1, 1002+2*full, "c"))
}

func TestP13_3Stamp(t *testing.T) {
	d := of(t, up(at(1, 1, "ab"), embed(id(1, 3), none, none, null)))
	for _, x := range []struct {
		what string
		o    api.Op
		want uint64
	}{
		{"a set", set(id(1, 4), 5, none, "k", integer(1)), 5},
		{"a lesser mark", mark(id(1, 5), 3, begin, end, "k", null), 5},
		{"a greater mark", mark(id(1, 6), 7, begin, end, "k", null), 7},
		{"one that waits", mark(id(2, 2), 20, begin, end, "k", null), 7},
		{"a void one", set(id(1, 7), 9, id(1, 1), "k", null), 9},
		{"what waited", at(2, 1, "x"), 20},
		{"the greatest", set(id(1, 8), top, none, "k", null), top},
	} {
		news(t, d, x.what, up(x.o))
		if got := d.Stamp(); got != x.want {
			t.Errorf("%s: %d, not %d", x.what, got, x.want)
		}
	}
	news(t, d, "deleted", turning(turn(1, 1, 99, 1)))
	if got := d.Stamp(); got != top {
		t.Errorf("deleted: %d", got)
	}
}

func TestP13_3Seq(t *testing.T) {
	d := of(t, up(at(1, 1, "abc"), text(id(2, 1), id(1, 1), id(1, 2), "xy")), turning(turn(1, 2, 4, 1)))
	want := []api.Unit{{Id: id(1, 1)}, {Id: id(2, 1), Left: id(1, 1), Right: id(1, 2)}, {Id: id(2, 2), Left: id(2, 1), Right: id(1, 2)}, {Id: id(1, 2), Left: id(1, 1)}, {Id: id(1, 3), Left: id(1, 2)}}
	s := d.Seq()
	same(t, "Seq", unitsOf(s), want)
	if !s.Insert(api.Unit{Id: id(9, 1)}) || s.Insert(api.Unit{Id: id(1, 1)}) {
		t.Error("the copy isn't a sequence of these units")
	}
	same(t, "Seq, behind a change of its copy", unitsOf(d.Seq()), want)
	news(t, d, "one more", up(at(9, 1, "z")))
	if s.Find(id(9, 1)) < 0 || s.Len() != 6 || d.Seq().Len() != 6 {
		t.Error("one copy, or the document, goes with the other")
	}
}

func TestP13_3Maps(t *testing.T) {
	d := of(t, up(set(id(1, 1), 1, none, "m", aMap), set(id(1, 2), 2, id(1, 1), "k", integer(1)), set(id(2, 1), 3, id(1, 1), "k", integer(2)), set(id(2, 2), 3, none, "z", null)))
	m := d.Maps()
	check := func(what, want string) {
		t.Helper()
		if got := shownMap(d.Maps().View()); got != want {
			t.Errorf("%s: Maps: %s, not %s", what, got, want)
		}
		checkShown(t, what, d, want)
	}
	check("nothing deleted", "{m=map{k=2}}")
	news(t, d, "a set deleted", turning(turn(2, 1, 2, 1)))
	check("a set deleted", "{m=map{k=1}}")
	news(t, d, "the map deleted", turning(turn(1, 1, 2, 1)))
	check("the map deleted", "")
	if !d.Maps().Is(id(1, 1)) {
		t.Error("a deleted map isn't there")
	}
	news(t, d, "a turn ahead of its set", turning(turn(3, 1, 2, 1)))
	news(t, d, "its set", up(set(id(3, 1), 9, none, "z", integer(9))))
	check("deleted ahead of its set", "")
	news(t, d, "all shown again", turning(turn(1, 1, 9, 2), turn(2, 1, 9, 2), turn(3, 1, 2, 2)))
	check("all shown again", "{m=map{k=2}}{z=9}")
	if got := shownMap(m.View()); got != "{m=map{k=2}}" {
		t.Errorf("a copy goes with the document: %s", got)
	}
	m.Hide([]api.Range{{Client: 1, From: 1, To: 9}})
	m.Set(set(id(9, 9), 99, none, "y", integer(3)))
	check("a copy has changed", "{m=map{k=2}}{z=9}")
}

func TestP13_3Marks(t *testing.T) {
	one := integer(1)
	a, b, c, void := mark(id(3, 1), 1, begin, end, "a", one), mark(id(1, 4), 9, begin, end, "b", null), mark(id(1, 5), 2, ahead(id(1, 3)), ahead(id(1, 1)), "c", one), mark(id(2, 1), 1, ahead(id(2, 9)), end, "d", one)
	d := of(t, up(a), up(at(1, 1, "abc"), b, c), up(void), up(mark(id(5, 2), 1, begin, end, "waits", one)))
	sameOps(t, "Marks", d.Marks(), b, c, a)
	news(t, d, "one deleted", turning(turn(1, 5, 6, 1), turn(2, 1, 2, 1)))
	sameOps(t, "Marks, one deleted", d.Marks(), b, a)
	news(t, d, "shown again", turning(turn(1, 5, 6, 4), turn(3, 1, 2, 3), turn(2, 1, 2, 2)))
	sameOps(t, "Marks, shown again", d.Marks(), b, c)
	news(t, d, "its unit deleted", turning(turn(1, 1, 4, 1)))
	sameOps(t, "Marks, its unit deleted", d.Marks(), b, c)
}

func TestP13_3GetAndVoid(t *testing.T) {
	o := text(id(1, 1), none, none, "a\U0001F600c")
	void := text(id(2, 1), id(1, 2), id(1, 1), "vw")
	bold := mark(id(1, 4), 3, begin, end, "bold", boolean(1))
	d := of(t, up(o, bold, void, at(3, 2, "waits"), text(id(4, 1), id(9, 9), none, "waits")), turning(turn(1, 1, 2, 1)))
	for _, x := range []struct {
		id   api.Id
		want api.Op
		void bool
	}{
		{id(1, 1), text(id(1, 1), none, none, "a"), false},
		{id(1, 2), text(id(1, 2), id(1, 1), none, "\U0001F600"), false},
		{id(1, 3), text(id(1, 3), id(1, 2), none, "c"), false},
		{id(1, 4), bold, false},
		{id(2, 1), text(id(2, 1), id(1, 2), id(1, 1), "v"), true},
		{id(2, 2), text(id(2, 2), id(2, 1), id(1, 1), "w"), true},
		{id(1, 5), api.Op{}, false}, {id(2, 3), api.Op{}, false}, {id(3, 1), api.Op{}, false}, {id(3, 2), api.Op{}, false}, {id(4, 1), api.Op{}, false},
		{none, api.Op{}, false}, {id(0, 1), api.Op{}, false}, {id(2, 0), api.Op{}, false}, {id(top+1, 1), api.Op{}, false}, {id(2, math.MaxUint64), api.Op{}, false},
	} {
		got, ok := d.Get(x.id)
		if !exactOp(got, x.want) || ok != (x.want.Kind > 0) || d.Void(x.id) != x.void {
			t.Errorf("%v: %v, %t, void %t, not %v", x.id, got, ok, d.Void(x.id), x.want)
		}
	}
}

// TestP13_3VoidOfMany: void ones and others in turn.
func TestP13_3VoidOfMany(t *testing.T) {
	d := of(t, up(at(1, 1, "ab")))
	for i := range uint64(500) {
		tell(t, d, up(text(id(2, 1+5*i), id(1, 2), id(1, 1), "vw"), text(id(2, 3+5*i), id(1, 2), none, "xyz")))
	}
	for clock := uint64(1); clock <= 2500; clock++ {
		if got, want := d.Void(id(2, clock)), (clock-1)%5 < 2; got != want {
			t.Fatalf("%d: %t", clock, got)
		}
	}
}

// TestP13_3OneNaN: no other one is ever answered.
func TestP13_3OneNaN(t *testing.T) {
	other := floatOf(0xFFF8000000000001)
	d := of(t, up(embed(id(1, 1), none, none, other), mark(id(1, 2), 1, begin, end, "k", other), set(id(1, 3), 1, none, "k", other), set(id(2, 2), 1, none, "k", other)))
	want := floatOf(theNaN)
	got, _ := d.Get(id(1, 1))
	set, _ := d.Maps().Get(none, "k")
	v := d.View()
	for n, x := range []api.Value{got.V, d.Ops()[0].V, d.Ops()[1].V, d.Ops()[2].V, d.Pending()[0].V, d.Marks()[0].V, set.V, v.Runs[0].V, v.Runs[0].Marks[0].V, v.Map[0].V} {
		if !alike(x, want) {
			t.Errorf("%d: %x", n, math.Float64bits(x.F))
		}
	}
}

// TestP13_3ByTheLayersBelow: what is told is in the forms that these answer.
func TestP13_3ByTheLayersBelow(t *testing.T) {
	d := some(t)
	sameOps(t, "Ops", d.Ops(), ops.Join(d.Ops())...)
	sameOps(t, "Pending", d.Pending(), ops.Join(d.Pending())...)
	n := 0
	for _, o := range d.Pending() {
		n += ops.Len(o)
	}
	checkWaiting(t, "Pending's clocks", d, n)
}
