package edit_test

import (
	"math"
	"slices"
	"testing"

	"quire/api"
	"quire/doc"
	"quire/edit"
	"quire/seq"
)

const (
	top  = api.MaxId
	full = api.MaxText
	// theNaN: the bits of the one NaN that is ever answered.
	theNaN = 0x7FF8000000000000
)

var none api.Id

func id(client, clock uint64) api.Id { return api.Id{Client: client, Clock: clock} }

var null, aMap = api.Value{}, api.Value{Kind: api.ValMap}

func boolean(n int64) api.Value { return api.Value{Kind: api.ValBool, N: n} }

func integer(n int64) api.Value { return api.Value{Kind: api.ValInt, N: n} }

func float(f float64) api.Value { return api.Value{Kind: api.ValFloat, F: f} }

func floatOf(bits uint64) api.Value { return float(math.Float64frombits(bits)) }

func words(s string) api.Value { return api.Value{Kind: api.ValText, S: s} }

func text(x, left, right api.Id, s string) api.Op {
	return api.Op{Id: x, Kind: api.OpText, Left: left, Right: right, Text: s}
}

func embed(x, left, right api.Id, v api.Value) api.Op {
	return api.Op{Id: x, Kind: api.OpEmbed, Left: left, Right: right, V: v}
}

func mark(x api.Id, stamp uint64, first, last api.Id, key string, v api.Value) api.Op {
	return api.Op{Id: x, Kind: api.OpMark, Stamp: stamp, From: api.Anchor{Id: first}, To: api.Anchor{Id: last, After: true}, Key: key, V: v}
}

func set(x api.Id, stamp uint64, parent api.Id, key string, v api.Value) api.Op {
	return api.Op{Id: x, Kind: api.OpSet, Stamp: stamp, Parent: parent, Key: key, V: v}
}

func turn(client, from, to, n uint64) api.Turn {
	return api.Turn{Client: client, From: from, To: to, N: n}
}

func up(l ...api.Op) api.Update { return api.Update{Ops: l} }

func turning(l ...api.Turn) api.Update { return api.Update{Turns: l} }

// The edits of each kind.

func inserting(at int, s string) api.Edit {
	return api.Edit{Kind: api.EditInsert, At: at, Text: s}
}

func embedding(at int, v api.Value) api.Edit { return api.Edit{Kind: api.EditEmbed, At: at, V: v} }

func deleting(at, n int) api.Edit { return api.Edit{Kind: api.EditDelete, At: at, N: n} }

func marking(at, n int, key string, v api.Value) api.Edit {
	return api.Edit{Kind: api.EditMark, At: at, N: n, Key: key, V: v}
}

func setting(key string, v api.Value, path ...string) api.Edit {
	return api.Edit{Kind: api.EditSet, Key: key, V: v, Path: path}
}

// of: a document that was told these updates, one behind the other, none of which it may refuse.
func of(t *testing.T, l ...api.Update) *doc.Doc {
	t.Helper()
	d := doc.New()
	for _, u := range l {
		if _, e := d.Apply(u); e != api.OK {
			t.Fatalf("%v: %v", u, e)
		}
	}
	return d
}

// wrongTexts: what isn't right UTF-8.
func wrongTexts() []string {
	return []string{"\xFF", "a\x80", "\xC3", "\xA9", "\xE2\x82", "\xC0\x80", "\xED\xA0\x80", "\xF4\x90\x80\x80", "a\xF5b"}
}

// oneNaN: v with the one NaN.
func oneNaN(v api.Value) api.Value {
	if math.IsNaN(v.F) {
		v.F = math.Float64frombits(theNaN)
	}
	return v
}

func alike(a, b api.Value) bool {
	return a.Kind == b.Kind && a.N == b.N && math.Float64bits(a.F) == math.Float64bits(b.F) && a.S == b.S
}

// exactOp: whether a and b are alike to the last bit.
func exactOp(a, b api.Op) bool {
	if !alike(a.V, b.V) {
		return false
	}
	a.V, b.V = null, null
	return a == b
}

func exactUpdate(a, b api.Update) bool {
	return slices.EqualFunc(a.Ops, b.Ops, exactOp) && slices.Equal(a.Turns, b.Turns)
}

func exactEntries(a, b []api.Entry) bool {
	return slices.EqualFunc(a, b, func(x, y api.Entry) bool {
		return x.Key == y.Key && alike(x.V, y.V) && exactEntries(x.Kids, y.Kids)
	})
}

func exactMark(a, b api.Mark) bool { return a.Key == b.Key && alike(a.V, b.V) }

func exactRun(a, b api.Run) bool {
	return a.Text == b.Text && a.Embed == b.Embed && alike(a.V, b.V) && slices.EqualFunc(a.Marks, b.Marks, exactMark)
}

func exactRuns(a, b []api.Run) bool { return slices.EqualFunc(a, b, exactRun) }

func exactView(a, b api.View) bool { return exactRuns(a.Runs, b.Runs) && exactEntries(a.Map, b.Map) }

func unitsOf(s *seq.Seq) []api.Unit {
	var out []api.Unit
	for _, u := range s.All() {
		out = append(out, u)
	}
	return out
}

// short: an update for a failing test to tell, with the beginnings of long texts and lists.
func short(u api.Update) api.Update {
	u.Ops, u.Turns = slices.Clone(u.Ops[:min(len(u.Ops), 8)]), u.Turns[:min(len(u.Turns), 16)]
	for i, o := range u.Ops {
		u.Ops[i].Text = o.Text[:min(len(o.Text), 32)]
	}
	return u
}

// all: all that a document tells.
type all struct {
	vector       []api.Clock
	turns        []api.Turn
	ops, pending []api.Op
	waiting      int
	stamp        uint64
	seq          []api.Unit
	units        []api.Id
	marks        []api.Op
	view         api.View
}

func allOf(d *doc.Doc) all {
	return all{d.Vector(), d.Turns(), d.Ops(), d.Pending(), d.Waiting(), d.Stamp(), unitsOf(d.Seq()), d.Units(), d.Marks(), d.View()}
}

func sameAll(a, b all) bool {
	return slices.Equal(a.vector, b.vector) && slices.Equal(a.turns, b.turns) && slices.EqualFunc(a.ops, b.ops, exactOp) && slices.EqualFunc(a.pending, b.pending, exactOp) &&
		a.waiting == b.waiting && a.stamp == b.stamp && slices.Equal(a.seq, b.seq) && slices.Equal(a.units, b.units) && slices.EqualFunc(a.marks, b.marks, exactOp) &&
		exactView(a.view, b.view)
}

// ask: what Make answers of an edit whose Path lies in memory of its own, with spare room behind it. That, and the document, must be as they were then, and what is laid in the one and in the answer afterwards must say nothing.
func ask(t *testing.T, d *doc.Doc, client uint64, e api.Edit) (api.Update, api.Errno) {
	t.Helper()
	were := allOf(d)
	path := append(slices.Clone(e.Path), "spare", "room")
	wasPath := slices.Clone(path)
	told := e
	told.Path = path[:len(e.Path)]
	got, errno := edit.Make(d, client, told)
	if !slices.Equal(path, wasPath) {
		t.Fatalf("%v: what was handed in has changed: %q, not %q", e, path, wasPath)
	}
	u := api.Update{Ops: slices.Clone(got.Ops), Turns: slices.Clone(got.Turns)}
	for i := range path {
		path[i] = "other"
	}
	overwrite(got.Ops, text(id(78, 1), none, none, "other"))
	overwrite(got.Turns, turn(78, 1, 9, 1))
	if !sameAll(allOf(d), were) {
		t.Fatalf("%v: the document has changed: %v, not %v", e, allOf(d), were)
	}
	if again, which := edit.Make(d, client, e); !exactUpdate(again, u) || which != errno {
		t.Fatalf("%v: asked again: %v, %v, not %v, %v", e, short(again), which, short(u), errno)
	}
	return u, errno
}

// overwrite lays x all over l, and over its spare room.
func overwrite[T any](l []T, x T) {
	for i := range l[:cap(l)] {
		l[:cap(l)][i] = x
	}
}

// tells: the edit must tell just this.
func tells(t *testing.T, what string, d *doc.Doc, client uint64, e api.Edit, want api.Update) {
	t.Helper()
	if got, errno := ask(t, d, client, e); errno != api.OK || !exactUpdate(got, want) {
		t.Errorf("%s: %v, %v, not %v", what, short(got), errno, short(want))
	}
}

// fails: the edit must be answered by this error, and by nothing else.
func fails(t *testing.T, what string, d *doc.Doc, client uint64, e api.Edit, want api.Errno) {
	t.Helper()
	if got, errno := ask(t, d, client, e); errno != want || len(got.Ops)+len(got.Turns) > 0 {
		t.Errorf("%s: %v, %v, not %v", what, short(got), errno, want)
	}
}
