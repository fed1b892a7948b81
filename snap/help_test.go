package snap_test

import (
	"math"
	"math/rand"
	"slices"
	"testing"

	"quire/api"
	"quire/doc"
	"quire/edit"
	"quire/ops"
	"quire/snap"
	"quire/update"
)

const (
	top  = api.MaxId
	full = api.MaxText
)

var none api.Id

func id(client, clock uint64) api.Id { return api.Id{Client: client, Clock: clock} }

var null, aMap = api.Value{}, api.Value{Kind: api.ValMap}

func integer(n int64) api.Value { return api.Value{Kind: api.ValInt, N: n} }

func words(s string) api.Value { return api.Value{Kind: api.ValText, S: s} }

func nanOf(bits uint64) api.Value {
	return api.Value{Kind: api.ValFloat, F: math.Float64frombits(bits)}
}

func text(x, left, right api.Id, s string) api.Op {
	return api.Op{Id: x, Kind: api.OpText, Left: left, Right: right, Text: s}
}

// at: a text behind its client's last rune, if there is one, with nothing on its right.
func at(client, clock uint64, s string) api.Op {
	left := none
	if clock > 1 {
		left = id(client, clock-1)
	}
	return text(id(client, clock), left, none, s)
}

func embed(x, left, right api.Id, v api.Value) api.Op {
	return api.Op{Id: x, Kind: api.OpEmbed, Left: left, Right: right, V: v}
}

func mark(x api.Id, stamp uint64, from, to api.Anchor, key string, v api.Value) api.Op {
	return api.Op{Id: x, Kind: api.OpMark, Stamp: stamp, From: from, To: to, Key: key, V: v}
}

func set(x api.Id, stamp uint64, parent api.Id, key string, v api.Value) api.Op {
	return api.Op{Id: x, Kind: api.OpSet, Stamp: stamp, Parent: parent, Key: key, V: v}
}

func ahead(x api.Id) api.Anchor { return api.Anchor{Id: x} }

func behind(x api.Id) api.Anchor { return api.Anchor{Id: x, After: true} }

var begin, end = api.Anchor{}, api.Anchor{After: true}

func turn(client, from, to, n uint64) api.Turn {
	return api.Turn{Client: client, From: from, To: to, N: n}
}

func up(l ...api.Op) api.Update { return api.Update{Ops: l} }

func turning(l ...api.Turn) api.Update { return api.Update{Turns: l} }

func both(u api.Update, l ...api.Turn) api.Update {
	return api.Update{Ops: u.Ops, Turns: append(slices.Clone(u.Turns), l...)}
}

// of: a document that was told these updates, one behind the other, none of which it may refuse.
func of(t *testing.T, l ...api.Update) *doc.Doc {
	t.Helper()
	d := doc.New()
	for _, u := range l {
		apply(t, d, u)
	}
	return d
}

func apply(t *testing.T, d *doc.Doc, u api.Update) {
	t.Helper()
	if _, e := d.Apply(u); e != api.OK {
		t.Fatalf("%v: %v", short(u), e)
	}
}

func exactOp(a, b api.Op) bool {
	if math.Float64bits(a.V.F) != math.Float64bits(b.V.F) {
		return false
	}
	a.V.F, b.V.F = 0, 0
	return a == b
}

func exact(a, b api.Update) bool {
	return slices.EqualFunc(a.Ops, b.Ops, exactOp) && slices.Equal(a.Turns, b.Turns)
}

func copyOf(u api.Update) api.Update {
	return api.Update{Ops: slices.Clone(u.Ops), Turns: slices.Clone(u.Turns)}
}

// short: an update for a failing test to tell, with the beginnings of long texts and lists.
func short(u api.Update) api.Update {
	u.Ops, u.Turns = slices.Clone(u.Ops[:min(len(u.Ops), 8)]), u.Turns[:min(len(u.Turns), 16)]
	for i, o := range u.Ops {
		u.Ops[i].Text = o.Text[:min(len(o.Text), 32)]
		u.Ops[i].V.S = o.V.S[:min(len(o.V.S), 32)]
	}
	return u
}

// all: what calls tell of a document.
func all(d *doc.Doc) (known, waits api.Update) {
	return api.Update{Ops: d.Ops(), Turns: d.Turns()}, api.Update{Ops: d.Pending()}
}

// checkAlike: two documents must know the same, and wait for the same.
func checkAlike(t *testing.T, what string, got, want *doc.Doc) {
	t.Helper()
	a, waits := all(got)
	b, pending := all(want)
	if !exact(a, b) || !exact(waits, pending) || got.Waiting() != want.Waiting() || !slices.Equal(got.Vector(), want.Vector()) {
		t.Fatalf("%s: %v, %v, not %v, %v", what, short(a), short(waits), short(b), short(pending))
	}
	x, y := got.View(), want.View()
	if !slices.EqualFunc(x.Runs, y.Runs, func(r, s api.Run) bool { return r.Text == s.Text && len(r.Marks) == len(s.Marks) }) || len(x.Map) != len(y.Map) {
		t.Fatalf("%s: %v, not %v", what, x, y)
	}
}

// written: what Write answers of d, which must be as it was, and answer the same once more.
func written(t *testing.T, d *doc.Doc) ([]byte, api.Errno) {
	t.Helper()
	was := d.Copy()
	first, errno := snap.Write(d)
	b := slices.Clone(first)
	for i := range first {
		first[i] = 0xEE
	}
	if again, e := snap.Write(d); !slices.Equal(again, b) || e != errno {
		t.Fatalf("asked again: %x, %v, not %x, %v", again, e, b, errno)
	}
	checkAlike(t, "P17.1: behind Write", d, was)
	return b, errno
}

// read: what Read answers of b, which must be as it was, and isn't kept.
func read(t *testing.T, b []byte) (*doc.Doc, api.Errno) {
	t.Helper()
	whole := append(slices.Clone(b), 0x51, 0, 0)
	d, e := snap.Read(whole[:len(b)])
	if !slices.Equal(whole, append(slices.Clone(b), 0x51, 0, 0)) {
		t.Fatalf("what was handed in has changed: %x", whole)
	}
	if e == api.OK {
		was := d.Copy()
		for i := range whole {
			whole[i] = 0xEE
		}
		checkAlike(t, "P17.1: what was handed in is kept", d, was)
	}
	return d, e
}

// split: what Split answers of u, which must be as it was, and isn't kept; what is laid in one of its lists must be seen in no other one.
func split(t *testing.T, u api.Update, most int) []api.Update {
	t.Helper()
	whole := api.Update{Ops: append(slices.Clone(u.Ops), at(77, 1, "spare")), Turns: append(slices.Clone(u.Turns), turn(77, 1, 9, 5))}
	was := copyOf(whole)
	lent := api.Update{Ops: whole.Ops[:len(u.Ops)], Turns: whole.Turns[:len(u.Turns)]}
	first := snap.Split(lent, most)
	var got []api.Update
	for _, part := range first {
		got = append(got, copyOf(part))
	}
	for i, part := range first {
		if !exact(part, got[i]) {
			t.Fatalf("two lists of one answer share memory: %v, not %v", short(part), short(got[i]))
		}
		overwrite(part.Ops, at(79, 1, "other"))
		overwrite(part.Turns, turn(79, 1, 9, 1))
	}
	if !exact(whole, was) {
		t.Fatalf("what was handed in has changed: %v, not %v", short(whole), short(was))
	}
	again := snap.Split(lent, most)
	overwrite(whole.Ops, at(78, 1, "other"))
	overwrite(whole.Turns, turn(78, 1, 9, 1))
	if !slices.EqualFunc(again, got, exact) {
		t.Fatalf("asked again, or what was handed in is kept: %d parts, not %d", len(again), len(got))
	}
	return got
}

// overwrite lays x all over l, and over its spare room.
func overwrite[T any](l []T, x T) {
	for i := range l[:cap(l)] {
		l[:cap(l)][i] = x
	}
}

// drawn: a row of numbers by chance.
func drawn(seed int64) func(int) int { return rand.New(rand.NewSource(seed)).Intn }

// given: a row of numbers from bytes; behind them noughts.
func given(b []byte) func(int) int {
	return func(n int) int {
		if len(b) == 0 {
			return 0
		}
		x := int(b[0])
		b = b[1:]
		return x % n
	}
}

func shuffle[T any](next func(int) int, l []T) {
	for i := range l {
		k := next(i + 1)
		l[i], l[k] = l[k], l[i]
	}
}

// write makes an edit of a client in a document, and answers what it told, if it could be made.
func write(t *testing.T, next func(int) int, d *doc.Doc, client uint64) (api.Update, bool) {
	t.Helper()
	n := len(d.Units())
	e := api.Edit{Kind: api.EditInsert, At: next(n + 1), Text: string([]rune("aé\U0001F600bcdefg")[next(4):][:1+next(5)])}
	if n > 0 {
		place := next(n)
		switch next(8) {
		case 1, 2:
			e = api.Edit{Kind: api.EditDelete, At: place, N: 1 + next(min(n-place, 4))}
		case 3:
			e = api.Edit{Kind: api.EditMark, At: place, N: 1 + next(n-place), Key: []string{"k", "l"}[next(2)], V: integer(int64(next(3)))}
		case 4:
			e = api.Edit{Kind: api.EditEmbed, At: place, V: words("é")}
		case 5:
			e = api.Edit{Kind: api.EditSet, Key: []string{"k", "l"}[next(2)], V: nanOf(0x7FF8000000000000)}
		}
	}
	u, errno := edit.Make(d, client, e)
	if errno != api.OK {
		return api.Update{}, false
	}
	apply(t, d, u)
	return u, true
}

// story: what some clients wrote, who heard of one another at times.
func story(t *testing.T, next func(int) int) []api.Update {
	t.Helper()
	docs := []*doc.Doc{doc.New(), doc.New(), doc.New()}
	var told []api.Update
	for range next(16) {
		client := next(len(docs))
		if u, ok := write(t, next, docs[client], uint64(1+client)); ok {
			told = append(told, u)
		}
		if from := docs[next(len(docs))]; next(2) == 1 {
			to := docs[next(len(docs))]
			apply(t, to, update.Since(from, to.Vector(), to.Turns()))
		}
	}
	return told
}

// pieces: l in other pieces, in another order, some of it doubled.
func pieces(next func(int) int, l []api.Update) []api.Update {
	var out []api.Update
	for _, u := range l {
		for _, o := range u.Ops {
			k := next(ops.Len(o))
			for _, x := range [][2]int{{0, k}, {k, ops.Len(o)}} {
				if piece, some := ops.Cut(o, x[0], x[1]); some {
					out = append(out, up(piece))
				}
			}
		}
		for _, x := range u.Turns {
			out = append(out, turning(x))
		}
		if next(3) == 1 {
			out = append(out, u)
		}
	}
	shuffle(next, out)
	return out
}
