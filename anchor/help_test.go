package anchor_test

import (
	"math/rand"
	"slices"
	"testing"

	"quire/anchor"
	"quire/api"
	"quire/doc"
	"quire/edit"
	"quire/update"
)

const top = api.MaxId

var none api.Id

var null = api.Value{}

var begin, end = api.Anchor{}, api.Anchor{After: true}

func id(client, clock uint64) api.Id { return api.Id{Client: client, Clock: clock} }

func integer(n int64) api.Value { return api.Value{Kind: api.ValInt, N: n} }

func text(x, left, right api.Id, s string) api.Op {
	return api.Op{Id: x, Kind: api.OpText, Left: left, Right: right, Text: s}
}

func embed(x, left, right api.Id, v api.Value) api.Op {
	return api.Op{Id: x, Kind: api.OpEmbed, Left: left, Right: right, V: v}
}

func mark(x api.Id, stamp uint64, from, to api.Anchor, key string, v api.Value) api.Op {
	return api.Op{Id: x, Kind: api.OpMark, Stamp: stamp, From: from, To: to, Key: key, V: v}
}

func set(x api.Id, stamp uint64, parent api.Id, key string, v api.Value) api.Op {
	return api.Op{Id: x, Kind: api.OpSet, Stamp: stamp, Parent: parent, Key: key, V: v}
}

func ahead(x api.Id) api.Anchor { return api.Anchor{Id: x} }

func behind(x api.Id) api.Anchor { return api.Anchor{Id: x, After: true} }

func turn(client, from, to, n uint64) api.Turn {
	return api.Turn{Client: client, From: from, To: to, N: n}
}

func up(l ...api.Op) api.Update { return api.Update{Ops: l} }

func turning(l ...api.Turn) api.Update { return api.Update{Turns: l} }

// of: a document that was told these updates, one behind the other, none of which it may refuse.
func of(t *testing.T, l ...api.Update) *doc.Doc {
	t.Helper()
	d := doc.New()
	for _, u := range l {
		apply(t, d, u)
	}
	return d
}

func apply(t *testing.T, d *doc.Doc, u api.Update) {
	t.Helper()
	if _, e := d.Apply(u); e != api.OK {
		t.Fatalf("%v: %v", u, e)
	}
}

// makes makes an edit in d.
func makes(t *testing.T, d *doc.Doc, client uint64, e api.Edit) {
	t.Helper()
	u, errno := edit.Make(d, client, e)
	if errno != api.OK {
		t.Fatalf("%v: %v", e, errno)
	}
	apply(t, d, u)
}

func inserts(place int, s string) api.Edit {
	return api.Edit{Kind: api.EditInsert, At: place, Text: s}
}

func embeds(place int) api.Edit { return api.Edit{Kind: api.EditEmbed, At: place} }

func deletes(place, n int) api.Edit { return api.Edit{Kind: api.EditDelete, At: place, N: n} }

// checkUnchanged: d must be what was copied of it.
func checkUnchanged(t *testing.T, d, was *doc.Doc) {
	t.Helper()
	if !slices.Equal(d.Ops(), was.Ops()) || !slices.Equal(d.Turns(), was.Turns()) || !slices.Equal(d.Pending(), was.Pending()) || !slices.Equal(d.Units(), was.Units()) {
		t.Fatal("the document has changed")
	}
}

// made: what Make answers, asked twice.
func made(t *testing.T, d *doc.Doc, place int, after bool) (api.Anchor, bool) {
	t.Helper()
	was := d.Copy()
	a, some := anchor.Make(d, place, after)
	if b, too := anchor.Make(d, place, after); a != b || some != too {
		t.Fatalf("asked again: %v, %t, not %v, %t", b, too, a, some)
	}
	checkUnchanged(t, d, was)
	return a, some
}

// placeOf: what Place answers, asked twice.
func placeOf(t *testing.T, d *doc.Doc, a api.Anchor) (int, bool) {
	t.Helper()
	was := d.Copy()
	n, there := anchor.Place(d, a)
	if m, too := anchor.Place(d, a); n != m || there != too {
		t.Fatalf("asked again: %d, %t, not %d, %t", m, too, n, there)
	}
	checkUnchanged(t, d, was)
	return n, there
}

// checkPlace: an anchor must stand at a place; -1: nowhere.
func checkPlace(t *testing.T, what string, d *doc.Doc, a api.Anchor, want int) {
	t.Helper()
	n, there := placeOf(t, d, a)
	if n != max(want, 0) || there != (want >= 0) {
		t.Errorf("%s: %v: %d, %t, not %d", what, a, n, there, want)
	}
}

// drawn: a row of numbers by chance.
func drawn(seed int64) func(int) int { return rand.New(rand.NewSource(seed)).Intn }

// given: a row of numbers from bytes; behind them noughts.
func given(b []byte) func(int) int {
	return func(n int) int {
		if len(b) == 0 {
			return 0
		}
		x := int(b[0])
		b = b[1:]
		return x % n
	}
}

// write makes an edit of a client in a document, or turns some of its units once more.
func write(t *testing.T, next func(int) int, d *doc.Doc, client uint64) {
	t.Helper()
	n := len(d.Units())
	e := inserts(next(n+1), "abcdef"[:1+next(5)])
	switch place := next(n + 1); next(7) {
	case 0:
		e = embeds(place)
	case 1, 2:
		if place < n {
			e = deletes(place, 1+next(min(n-place, 4)))
		}
	case 3:
		e = api.Edit{Kind: api.EditSet, Key: "k"}
	case 4:
		if place < n {
			e = api.Edit{Kind: api.EditMark, At: place, N: 1, Key: "k"}
		}
	case 5:
		if l := d.Dels(); len(l) > 0 {
			r := l[next(len(l))]
			for _, x := range d.Turns() {
				if x.Client == r.Client && x.From == r.From && x.N%2 == 1 {
					apply(t, d, turning(turn(x.Client, x.From, x.To, x.N+1)))
					return
				}
			}
		}
	}
	makes(t, d, client, e)
}

// hears lets d know what from does.
func hears(t *testing.T, d, from *doc.Doc) {
	t.Helper()
	apply(t, d, update.Since(from, d.Vector(), d.Turns()))
}
