package undo_test

import (
	"math"
	"math/rand"
	"slices"
	"testing"

	"quire/api"
	"quire/doc"
	"quire/edit"
	"quire/ops"
	"quire/undo"
	"quire/update"
	"quire/view"
)

const (
	top     = api.MaxId
	forever = math.MaxUint64
)

var none api.Id

var null, aMap = api.Value{}, api.Value{Kind: api.ValMap}

var begin, end = api.Anchor{}, api.Anchor{After: true}

func id(client, clock uint64) api.Id { return api.Id{Client: client, Clock: clock} }

func integer(n int64) api.Value { return api.Value{Kind: api.ValInt, N: n} }

func text(x, left, right api.Id, s string) api.Op {
	return api.Op{Id: x, Kind: api.OpText, Left: left, Right: right, Text: s}
}

// at: a text behind its client's last rune, if there is one, with nothing on its right.
func at(client, clock uint64, s string) api.Op {
	left := none
	if clock > 1 {
		left = id(client, clock-1)
	}
	return text(id(client, clock), left, none, s)
}

func embed(x, left, right api.Id, v api.Value) api.Op {
	return api.Op{Id: x, Kind: api.OpEmbed, Left: left, Right: right, V: v}
}

func mark(x api.Id, stamp uint64, from, to api.Anchor, key string, v api.Value) api.Op {
	return api.Op{Id: x, Kind: api.OpMark, Stamp: stamp, From: from, To: to, Key: key, V: v}
}

func set(x api.Id, stamp uint64, parent api.Id, key string, v api.Value) api.Op {
	return api.Op{Id: x, Kind: api.OpSet, Stamp: stamp, Parent: parent, Key: key, V: v}
}

func ahead(x api.Id) api.Anchor { return api.Anchor{Id: x} }

func behind(x api.Id) api.Anchor { return api.Anchor{Id: x, After: true} }

func turn(client, from, to, n uint64) api.Turn {
	return api.Turn{Client: client, From: from, To: to, N: n}
}

func up(l ...api.Op) api.Update { return api.Update{Ops: l} }

func turning(l ...api.Turn) api.Update { return api.Update{Turns: l} }

func both(u api.Update, l ...api.Turn) api.Update {
	return api.Update{Ops: u.Ops, Turns: append(slices.Clone(u.Turns), l...)}
}

// wrong: operations and turns that aren't right, each by one thing, over ids that right ones have, too.
func wrong() api.Update {
	stamped, kindless, kept := at(1, 1, "abc"), at(1, 1, "abc"), embed(id(1, 1), none, none, integer(1))
	stamped.Stamp, kindless.Kind, kept.Key = 1, 0, "k"
	return api.Update{
		Ops: []api.Op{
			{}, stamped, kindless, kept, at(0, 1, "a"), at(top+1, 1, "a"), text(id(1, 0), none, none, "abc"), text(id(1, top), none, none, "ab"), at(1, 1, ""), at(1, 1, "a\xFF"),
			at(1, 1, string(make([]byte, api.MaxText+1))), text(id(1, 1), none, id(1, 1), "abc"), mark(id(1, 1), 0, begin, end, "k", null), set(id(1, 1), 1, none, "", null),
		},
		Turns: []api.Turn{{}, turn(0, 1, 9, 5), turn(top+1, 1, 9, 5), turn(1, 0, 9, 5), turn(1, 9, 9, 5), turn(1, 9, 1, 5), turn(1, 1, top+2, 5), turn(1, 1, 9, 0), turn(1, 1, 9, top+1)},
	}
}

// of: a document that was told these updates, one behind the other, none of which it may refuse.
func of(t *testing.T, l ...api.Update) *doc.Doc {
	t.Helper()
	d := doc.New()
	for _, u := range l {
		apply(t, d, u)
	}
	return d
}

func apply(t *testing.T, d *doc.Doc, u api.Update) {
	t.Helper()
	if _, e := d.Apply(u); e != api.OK {
		t.Fatalf("%v: %v", u, e)
	}
}

// makes makes an edit in d, and answers what it told.
func makes(t *testing.T, d *doc.Doc, client uint64, e api.Edit) api.Update {
	t.Helper()
	u, errno := edit.Make(d, client, e)
	if errno != api.OK {
		t.Fatalf("%v: %v", e, errno)
	}
	apply(t, d, u)
	return u
}

func inserts(place int, s string) api.Edit {
	return api.Edit{Kind: api.EditInsert, At: place, Text: s}
}

func embeds(place int, n int64) api.Edit {
	return api.Edit{Kind: api.EditEmbed, At: place, V: integer(n)}
}

func deletes(place, n int) api.Edit { return api.Edit{Kind: api.EditDelete, At: place, N: n} }

func bolds(place, n int, key string, v api.Value) api.Edit {
	return api.Edit{Kind: api.EditMark, At: place, N: n, Key: key, V: v}
}

func sets(key string, v api.Value, path ...string) api.Edit {
	return api.Edit{Kind: api.EditSet, Key: key, V: v, Path: path}
}

func copyOf(u api.Update) api.Update {
	return api.Update{Ops: slices.Clone(u.Ops), Turns: slices.Clone(u.Turns)}
}

func exact(a, b api.Update) bool {
	return slices.Equal(a.Ops, b.Ops) && slices.Equal(a.Turns, b.Turns)
}

// lent: an update in memory of its own, with spare room behind its lists.
type lent struct{ u, whole, was api.Update }

func lend(u api.Update) lent {
	whole := api.Update{Ops: append(slices.Clone(u.Ops), at(77, 1, "spare"), at(77, 6, "room")), Turns: append(slices.Clone(u.Turns), turn(77, 1, 9, 5))}
	return lent{api.Update{Ops: whole.Ops[:len(u.Ops)], Turns: whole.Turns[:len(u.Turns)]}, whole, copyOf(whole)}
}

// back: what was lent must be as it was; others' things are laid in it then, which no answer may show.
func (l lent) back(t *testing.T) {
	t.Helper()
	if !exact(l.whole, l.was) {
		t.Fatalf("what was handed in has changed: %v, not %v", l.whole, l.was)
	}
	overwrite(l.whole.Ops, at(78, 1, "other"))
	overwrite(l.whole.Turns, turn(78, 1, 9, 1))
}

// overwrite lays x all over l, and over its spare room.
func overwrite[T any](l []T, x T) {
	for i := range l[:cap(l)] {
		l[:cap(l)][i] = x
	}
}

// note notes what is lent for that.
func note(t *testing.T, s *undo.Stack, u api.Update, tick uint64) {
	t.Helper()
	x := lend(u)
	s.Note(x.u, tick)
	x.back(t)
}

// told: what f answers of d, which must be as it was. What is laid in the answer is seen by no later call.
func told(t *testing.T, d *doc.Doc, f func(*doc.Doc) (api.Update, bool)) (api.Update, bool) {
	t.Helper()
	was := d.Copy()
	u, some := f(d)
	if !exact(all(d), all(was)) || !slices.Equal(d.Pending(), was.Pending()) {
		t.Fatal("the document has changed")
	}
	if len(u.Ops) > 0 || some != (len(u.Turns) > 0) {
		t.Fatalf("%v, %t", u, some)
	}
	got := copyOf(u)
	overwrite(u.Turns, turn(79, 1, 9, 1))
	return got, some
}

func all(d *doc.Doc) api.Update { return api.Update{Ops: d.Ops(), Turns: d.Turns()} }

// invert: what Invert answers of what is lent to it, asked twice.
func invert(t *testing.T, d *doc.Doc, step api.Update) (api.Update, bool) {
	t.Helper()
	x := lend(step)
	first, some := told(t, d, func(d *doc.Doc) (api.Update, bool) { return undo.Invert(d, x.u) })
	again, too := undo.Invert(d, x.u)
	x.back(t)
	if !exact(first, again) || some != too {
		t.Fatalf("asked again: %v, %t, not %v, %t", again, too, first, some)
	}
	return first, some
}

// does: what Undo, or Redo, tells must be these turns; no turns: nothing. They are applied.
func does(t *testing.T, what string, d *doc.Doc, f func(*doc.Doc) (api.Update, bool), want ...api.Turn) {
	t.Helper()
	got, _ := told(t, d, f)
	if !slices.Equal(got.Turns, want) {
		t.Errorf("%s: %v, not %v", what, got.Turns, want)
	}
	apply(t, d, got)
}

func checkSteps(t *testing.T, what string, s *undo.Stack, undos, redos int) {
	t.Helper()
	for range 2 {
		if a, b := s.Steps(); a != undos || b != redos {
			t.Errorf("%s: %d steps to undo, %d to redo, not %d, %d", what, a, b, undos, redos)
		}
	}
}

func checkLook(t *testing.T, what string, d *doc.Doc, want string) {
	t.Helper()
	if got := view.Plain(d.View()); got != want {
		t.Errorf("%s: %q, not %q", what, got, want)
	}
}

// drawn: a row of numbers by chance.
func drawn(seed int64) func(int) int { return rand.New(rand.NewSource(seed)).Intn }

// given: a row of numbers from bytes; behind them noughts.
func given(b []byte) func(int) int {
	return func(n int) int {
		if len(b) == 0 {
			return 0
		}
		x := int(b[0])
		b = b[1:]
		return x % n
	}
}

// write makes an edit of a client in a document, and answers what it told, if it could be made.
func write(t *testing.T, next func(int) int, d *doc.Doc, client uint64) (api.Update, bool) {
	t.Helper()
	n := len(d.Units())
	e := inserts(next(n+1), string([]rune("aé\U0001F600bcdefg")[next(4):][:1+next(5)]))
	kind := next(10)
	switch place := next(n + 1); {
	case kind == 1:
		e = embeds(place, int64(next(3)))
	case kind == 2:
		e = sets([]string{"k", "m"}[next(2)], []api.Value{integer(1), aMap, null}[next(3)])
	case kind == 3:
		e = sets([]string{"k", "m"}[next(2)], []api.Value{integer(2), aMap, null}[next(3)], "m")
	case kind <= 6 && place < n:
		e = deletes(place, 1+next(min(n-place, 4)))
	case kind <= 8 && place < n:
		e = bolds(place, 1+next(n-place), []string{"k", "l"}[next(2)], []api.Value{integer(1), integer(2), null}[next(3)])
	}
	u, errno := edit.Make(d, client, e)
	if errno != api.OK {
		return api.Update{}, false
	}
	apply(t, d, u)
	return u, true
}

// hears lets d know what from does.
func hears(t *testing.T, d, from *doc.Doc) {
	t.Helper()
	apply(t, d, update.Since(from, d.Vector(), d.Turns()))
}

// has: whether a right operation of l tells x.
func has(l []api.Op, x api.Id) bool {
	return slices.ContainsFunc(l, func(o api.Op) bool {
		own := ops.Range(o)
		return ops.Check(o) == api.OK && own.Client == x.Client && own.From <= x.Clock && x.Clock < own.To
	})
}

// turnOf: the greatest right turn that l tells of x.
func turnOf(l []api.Turn, x api.Id) uint64 {
	n := uint64(0)
	for _, o := range l {
		right := o.Client >= 1 && o.Client <= top && o.From >= 1 && o.From < o.To && o.To <= top+1 && o.N >= 1 && o.N <= top
		if right && o.Client == x.Client && o.From <= x.Clock && x.Clock < o.To {
			n = max(n, o.N)
		}
	}
	return n
}

// inverts: what the chapter's words say of each id that d knows.
func inverts(d *doc.Doc, l ...api.Update) (api.Update, bool) {
	var out api.Update
	turns := d.Turns()
	for _, c := range d.Vector() {
		for n := uint64(1); n <= c.Clock; n++ {
			x := id(c.Client, n)
			now, made, inStep := turnOf(turns, x), false, uint64(0)
			for _, u := range l {
				made, inStep = made || has(u.Ops, x), max(inStep, turnOf(u.Turns, x))
			}
			deleted := now%2 == 1
			turns := made && !deleted || !made && (inStep%2 == 1 && deleted || inStep > 0 && inStep%2 == 0 && !deleted)
			if d.Void(x) || !turns {
				continue
			}
			if now == top {
				return api.Update{}, false
			}
			if k := len(out.Turns) - 1; k >= 0 && out.Turns[k].Client == x.Client && out.Turns[k].To == n && out.Turns[k].N == now+1 {
				out.Turns[k].To++
			} else {
				out.Turns = append(out.Turns, turn(x.Client, n, n+1, now+1))
			}
		}
	}
	return out, len(out.Turns) > 0
}
