package doc_test

import (
	"cmp"
	"math"
	"slices"
	"strings"
	"testing"

	"quire/api"
	"quire/doc"
	"quire/seq"
	"quire/value"
)

const (
	top  = api.MaxId
	full = api.MaxText
	// theNaN: the bits of the one NaN that is ever answered.
	theNaN = 0x7FF8000000000000
)

var none api.Id

func id(client, clock uint64) api.Id { return api.Id{Client: client, Clock: clock} }

var null, aMap = api.Value{}, api.Value{Kind: api.ValMap}

func boolean(n int64) api.Value { return api.Value{Kind: api.ValBool, N: n} }

func integer(n int64) api.Value { return api.Value{Kind: api.ValInt, N: n} }

func float(f float64) api.Value { return api.Value{Kind: api.ValFloat, F: f} }

func floatOf(bits uint64) api.Value { return float(math.Float64frombits(bits)) }

func words(s string) api.Value { return api.Value{Kind: api.ValText, S: s} }

func text(x, left, right api.Id, s string) api.Op {
	return api.Op{Id: x, Kind: api.OpText, Left: left, Right: right, Text: s}
}

// at: a text behind its client's last rune, if there is one, with nothing on its right.
func at(client, clock uint64, s string) api.Op {
	left := none
	if clock > 1 {
		left = id(client, clock-1)
	}
	return text(id(client, clock), left, none, s)
}

func embed(x, left, right api.Id, v api.Value) api.Op {
	return api.Op{Id: x, Kind: api.OpEmbed, Left: left, Right: right, V: v}
}

func mark(x api.Id, stamp uint64, from, to api.Anchor, key string, v api.Value) api.Op {
	return api.Op{Id: x, Kind: api.OpMark, Stamp: stamp, From: from, To: to, Key: key, V: v}
}

func set(x api.Id, stamp uint64, parent api.Id, key string, v api.Value) api.Op {
	return api.Op{Id: x, Kind: api.OpSet, Stamp: stamp, Parent: parent, Key: key, V: v}
}

func ahead(x api.Id) api.Anchor { return api.Anchor{Id: x} }

func behind(x api.Id) api.Anchor { return api.Anchor{Id: x, After: true} }

var begin, end = api.Anchor{}, api.Anchor{After: true}

func turn(client, from, to, n uint64) api.Turn {
	return api.Turn{Client: client, From: from, To: to, N: n}
}

func up(l ...api.Op) api.Update { return api.Update{Ops: l} }

func turning(l ...api.Turn) api.Update { return api.Update{Turns: l} }

// wrongOps: one of each kind that ops.Check refuses.
func wrongOps() []api.Op {
	stamped, own, kindless := at(1, 1, "a"), at(1, 1, "ab"), at(1, 1, "a")
	stamped.Stamp, own.Right, kindless.Kind = 1, id(1, 2), 5
	return []api.Op{
		{}, {Id: id(1, 1)}, stamped, own, kindless, at(1, 1, strings.Repeat("é", full+1)),
		at(1, 1, ""), at(1, 1, "a\xFF"), at(0, 1, "a"), at(1, 0, "a"), at(top+1, 1, "a"), at(1, top+1, "a"), at(1, top, "ab"), at(math.MaxUint64, math.MaxUint64, "a"),
		text(id(1, 1), id(2, 0), none, "a"), text(id(1, 1), none, id(0, 2), "a"),
		embed(id(1, 1), none, none, aMap), embed(id(1, 1), none, none, api.Value{Kind: 6}),
		mark(id(1, 1), 0, begin, end, "k", null), mark(id(1, 1), top+1, begin, end, "k", null), mark(id(1, 1), 1, begin, end, "", null), mark(id(1, 1), 1, ahead(id(1, 1)), end, "k", null), mark(id(1, 1), 1, begin, end, "k", aMap),
		set(id(1, 1), 0, none, "k", null), set(id(1, 1), 1, none, strings.Repeat("k", api.MaxKey+1), null), set(id(1, 1), 1, id(1, 1), "k", null), set(id(1, 1), 1, none, "k", boolean(2)),
	}
}

// of: a document that was told these updates, one behind the other, none of which it may refuse.
func of(t *testing.T, l ...api.Update) *doc.Doc {
	t.Helper()
	d := doc.New()
	for _, u := range l {
		if _, e := tell(t, d, u); e != api.OK {
			t.Fatalf("%v: %v", u, e)
		}
	}
	return d
}

// tell applies an update that lies in memory of its own, with spare room behind its lists. All of that must be as it was then; what is laid there afterwards must say nothing.
func tell(t *testing.T, d *doc.Doc, u api.Update) (bool, api.Errno) {
	t.Helper()
	spareOp, spareTurn := at(77, 1, "spare"), turn(77, 1, 9, 1)
	someOps, someTurns := append(slices.Clone(u.Ops), spareOp, spareOp), append(slices.Clone(u.Turns), spareTurn, spareTurn)
	wereOps, wereTurns := slices.Clone(someOps), slices.Clone(someTurns)
	ok, e := d.Apply(api.Update{Ops: someOps[:len(u.Ops)], Turns: someTurns[:len(u.Turns)]})
	if !slices.EqualFunc(someOps, wereOps, exactOp) || !slices.Equal(someTurns, wereTurns) {
		t.Fatalf("what was handed in has changed: %v, %v, not %v, %v", someOps, someTurns, wereOps, wereTurns)
	}
	for i := range someOps {
		someOps[i] = at(78, 1, "other")
	}
	for i := range someTurns {
		someTurns[i] = turn(78, 1, 9, 1)
	}
	return ok, e
}

// news, known: an update that must be told as news, one that must not.
func news(t *testing.T, d *doc.Doc, what string, u api.Update) {
	t.Helper()
	checkTell(t, d, what, u, true)
}

func known(t *testing.T, d *doc.Doc, what string, u api.Update) {
	t.Helper()
	checkTell(t, d, what, u, false)
}

func checkTell(t *testing.T, d *doc.Doc, what string, u api.Update, want bool) {
	t.Helper()
	if ok, e := tell(t, d, u); ok != want || e != api.OK {
		t.Errorf("%s: Apply: %t, %v, not %t", what, ok, e, want)
	}
}

func byId(a, b api.Op) int {
	return cmp.Or(cmp.Compare(a.Id.Client, b.Id.Client), cmp.Compare(a.Id.Clock, b.Id.Clock))
}

func alike(a, b api.Value) bool {
	return a.Kind == b.Kind && a.N == b.N && math.Float64bits(a.F) == math.Float64bits(b.F) && a.S == b.S
}

// exactOp: whether a and b are alike to the last bit.
func exactOp(a, b api.Op) bool {
	if !alike(a.V, b.V) {
		return false
	}
	a.V, b.V = null, null
	return a == b
}

func exactEntries(a, b []api.Entry) bool {
	return slices.EqualFunc(a, b, func(x, y api.Entry) bool {
		return x.Key == y.Key && alike(x.V, y.V) && exactEntries(x.Kids, y.Kids)
	})
}

func exactRun(a, b api.Run) bool {
	return a.Text == b.Text && a.Embed == b.Embed && alike(a.V, b.V) && slices.EqualFunc(a.Marks, b.Marks, func(x, y api.Mark) bool {
		return x.Key == y.Key && alike(x.V, y.V)
	})
}

func exactView(a, b api.View) bool {
	return slices.EqualFunc(a.Runs, b.Runs, exactRun) && exactEntries(a.Map, b.Map)
}

func same[T comparable](t *testing.T, what string, got, want []T) {
	t.Helper()
	if !slices.Equal(got, want) {
		t.Fatalf("%s: %v, not %v", what, got[:min(len(got), 20)], want[:min(len(want), 20)])
	}
}

// told: operations for a failing test to tell, with the beginnings of long texts.
func told(l []api.Op) []api.Op {
	l = slices.Clone(l[:min(len(l), 8)])
	for i, o := range l {
		l[i].Text = o.Text[:min(len(o.Text), 32)]
	}
	return l
}

func sameOps(t *testing.T, what string, got []api.Op, want ...api.Op) {
	t.Helper()
	if !slices.EqualFunc(got, want, exactOp) {
		t.Fatalf("%s: %d, not %d: %v, not %v", what, len(got), len(want), told(got), told(want))
	}
}

func sameView(t *testing.T, what string, got, want api.View) {
	t.Helper()
	if !exactView(got, want) {
		t.Fatalf("%s: %s, not %s", what, shown(got), shown(want))
	}
}

// shown: a view in a line: runs between bars, embeds in <>, marks in [], maps in {}.
func shown(v api.View) string {
	var runs []string
	for _, r := range v.Runs {
		s := r.Text
		if r.Embed {
			s += "<" + value.Text(r.V) + ">"
		}
		for _, m := range r.Marks {
			s += "[" + m.Key + "=" + value.Text(m.V) + "]"
		}
		runs = append(runs, s)
	}
	return strings.Join(runs, "|") + shownMap(v.Map)
}

func shownMap(l []api.Entry) string {
	s := ""
	for _, e := range l {
		s += "{" + e.Key + "=" + value.Text(e.V) + shownMap(e.Kids) + "}"
	}
	return s
}

func checkShown(t *testing.T, what string, d *doc.Doc, want string) {
	t.Helper()
	if got := shown(d.View()); got != want {
		t.Errorf("%s: View: %s, not %s", what, got, want)
	}
}

func checkWaiting(t *testing.T, what string, d *doc.Doc, want int) {
	t.Helper()
	if got := d.Waiting(); got != want {
		t.Errorf("%s: Waiting: %d, not %d", what, got, want)
	}
}

func unitsOf(s *seq.Seq) []api.Unit {
	var out []api.Unit
	for _, u := range s.All() {
		out = append(out, u)
	}
	return out
}

// all: all that a document tells, in memory of its own.
type all struct {
	vector  []api.Clock
	turns   []api.Turn
	dels    []api.Range
	ops     []api.Op
	waiting int
	pending []api.Op
	stamp   uint64
	seq     []api.Unit
	marks   []api.Op
	units   []api.Id
	view    api.View
	maps    []api.Entry
}

func allOf(d *doc.Doc) all {
	return all{d.Vector(), d.Turns(), d.Dels(), d.Ops(), d.Waiting(), d.Pending(), d.Stamp(), unitsOf(d.Seq()), d.Marks(), d.Units(), d.View(), d.Maps().View()}
}

func sameAll(t *testing.T, what string, got, want all) {
	t.Helper()
	same(t, what+": Vector", got.vector, want.vector)
	same(t, what+": Turns", got.turns, want.turns)
	same(t, what+": Dels", got.dels, want.dels)
	sameOps(t, what+": Ops", got.ops, want.ops...)
	sameOps(t, what+": Pending", got.pending, want.pending...)
	same(t, what+": Seq", got.seq, want.seq)
	sameOps(t, what+": Marks", got.marks, want.marks...)
	same(t, what+": Units", got.units, want.units)
	sameView(t, what+": View", got.view, want.view)
	if got.waiting != want.waiting || got.stamp != want.stamp || !exactEntries(got.maps, want.maps) {
		t.Fatalf("%s: %d, %d, %v, not %d, %d, %v", what, got.waiting, got.stamp, got.maps, want.waiting, want.stamp, want.maps)
	}
}
