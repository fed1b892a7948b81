package update_test

import (
	"cmp"
	"encoding/binary"
	"math"
	"slices"
	"testing"

	"quire/api"
	"quire/doc"
	"quire/update"
)

const (
	top  = api.MaxId
	full = api.MaxText
	// theNaN: the bits of the one NaN that is ever answered.
	theNaN = 0x7FF8000000000000
)

var none api.Id

func id(client, clock uint64) api.Id { return api.Id{Client: client, Clock: clock} }

var null, aMap = api.Value{}, api.Value{Kind: api.ValMap}

func boolean(n int64) api.Value { return api.Value{Kind: api.ValBool, N: n} }

func integer(n int64) api.Value { return api.Value{Kind: api.ValInt, N: n} }

func float(f float64) api.Value { return api.Value{Kind: api.ValFloat, F: f} }

func floatOf(bits uint64) api.Value { return float(math.Float64frombits(bits)) }

func words(s string) api.Value { return api.Value{Kind: api.ValText, S: s} }

func text(x, left, right api.Id, s string) api.Op {
	return api.Op{Id: x, Kind: api.OpText, Left: left, Right: right, Text: s}
}

// at: a text behind its client's last rune, if there is one, with nothing on its right.
func at(client, clock uint64, s string) api.Op {
	left := none
	if clock > 1 {
		left = id(client, clock-1)
	}
	return text(id(client, clock), left, none, s)
}

func embed(x, left, right api.Id, v api.Value) api.Op {
	return api.Op{Id: x, Kind: api.OpEmbed, Left: left, Right: right, V: v}
}

func mark(x api.Id, stamp uint64, from, to api.Anchor, key string, v api.Value) api.Op {
	return api.Op{Id: x, Kind: api.OpMark, Stamp: stamp, From: from, To: to, Key: key, V: v}
}

func set(x api.Id, stamp uint64, parent api.Id, key string, v api.Value) api.Op {
	return api.Op{Id: x, Kind: api.OpSet, Stamp: stamp, Parent: parent, Key: key, V: v}
}

func ahead(x api.Id) api.Anchor { return api.Anchor{Id: x} }

func behind(x api.Id) api.Anchor { return api.Anchor{Id: x, After: true} }

var begin, end = api.Anchor{}, api.Anchor{After: true}

func turn(client, from, to, n uint64) api.Turn {
	return api.Turn{Client: client, From: from, To: to, N: n}
}

func clock(client, n uint64) api.Clock { return api.Clock{Client: client, Clock: n} }

func up(l ...api.Op) api.Update { return api.Update{Ops: l} }

func turning(l ...api.Turn) api.Update { return api.Update{Turns: l} }

func both(u api.Update, l ...api.Turn) api.Update {
	return api.Update{Ops: u.Ops, Turns: append(slices.Clone(u.Turns), l...)}
}

// of: a document that was told these updates, one behind the other, none of which it may refuse.
func of(t *testing.T, l ...api.Update) *doc.Doc {
	t.Helper()
	d := doc.New()
	for _, u := range l {
		apply(t, d, u)
	}
	return d
}

func apply(t *testing.T, d *doc.Doc, u api.Update) {
	t.Helper()
	if _, e := d.Apply(u); e != api.OK {
		t.Fatalf("%v: %v", short(u), e)
	}
}

// wrongOps: what ops.Check refuses, over clocks of client 1 that right ones have, too.
func wrongOps() []api.Op {
	one := integer(1)
	stamped, valued, keyed := at(1, 1, "abc"), at(1, 1, "abc"), embed(id(1, 1), none, none, one)
	stamped.Stamp, valued.V, keyed.Key = 1, one, "k"
	kindless, beyond := at(1, 1, "abc"), at(1, 1, "abc")
	kindless.Kind, beyond.Kind = 0, api.OpSet+1
	return []api.Op{
		{}, stamped, valued, keyed, kindless, beyond,
		at(0, 1, "abc"), text(id(1, 0), none, none, "abc"), text(id(top+1, 1), none, none, "abc"), text(id(1, top+1), none, none, "a"), text(id(1, top), none, none, "ab"),
		at(1, 1, ""), at(1, 1, "a\xFF"), at(1, 1, string(make([]byte, full+1))), text(id(1, 1), id(1, 2), none, "abc"), text(id(1, 1), none, id(1, 1), "abc"), text(id(1, 1), id(0, 1), none, "abc"),
		embed(id(1, 1), none, none, aMap), embed(id(1, 1), none, none, boolean(2)), embed(id(1, 1), id(2, top+1), none, one),
		mark(id(1, 1), 0, begin, end, "k", one), mark(id(1, 1), top+1, begin, end, "k", one), mark(id(1, 1), 1, begin, end, "", one), mark(id(1, 1), 1, begin, end, "\xFF", one),
		mark(id(1, 1), 1, begin, end, string(make([]byte, api.MaxKey+1)), one), mark(id(1, 1), 1, begin, end, "k", aMap), mark(id(1, 1), 1, ahead(id(1, 1)), end, "k", one),
		set(id(1, 1), 0, none, "k", one), set(id(1, 1), 1, id(1, 1), "k", one), set(id(1, 1), 1, none, "k", words("\xFF")), set(id(1, 1), 1, none, "k", words(string(make([]byte, api.MaxString+1)))),
	}
}

// wrongTurns: what ids.Turns passes over.
func wrongTurns() []api.Turn {
	return []api.Turn{{}, turn(0, 1, 9, 5), turn(top+1, 1, 9, 5), turn(1, 0, 9, 5), turn(1, 9, 9, 5), turn(1, 9, 1, 5), turn(1, 1, top+2, 5), turn(1, 1, 9, 0), turn(1, 1, 9, top+1)}
}

// values: one of each kind and at each edge, with NaN of other bits among them.
func values() []api.Value {
	return []api.Value{
		null, boolean(0), boolean(1), integer(0), integer(-1), integer(1), integer(63), integer(64), integer(math.MaxInt64), integer(math.MinInt64),
		float(0), floatOf(1 << 63), float(1), float(-1.5), float(math.Inf(1)), float(math.Inf(-1)), float(math.SmallestNonzeroFloat64), float(math.MaxFloat64),
		floatOf(theNaN), floatOf(theNaN | 1<<63), floatOf(0x7FF0000000000001), floatOf(math.MaxUint64),
		words(""), words("a\"b\\"), words("é\U0001F600\x00"), words(string(make([]byte, api.MaxString))),
	}
}

// each: an operation of each kind with each of its fields, its values and keys at their edges too, no two of which join, in order.
func each() []api.Op {
	var l []api.Op
	n := uint64(0)
	next := func(client uint64) api.Id {
		n += 2
		return id(client, n)
	}
	for i, s := range []string{"a", "é\U0001F600\x00", string(slices.Repeat([]rune{0x1F600}, full))} {
		l = append(l, text(id(1, uint64(10000*i+2)), none, none, s))
	}
	for _, x := range []api.Id{none, id(1, 1), id(2, 3), id(top, top), id(1, top), id(128, 1), id(300, 1<<32)} {
		l = append(l, text(next(3), x, none, "ab"), text(next(3), none, x, "c"), text(next(3), x, x, "d"), embed(next(4), x, none, null), embed(next(4), none, x, null), embed(next(4), x, x, null))
		for _, stamp := range []uint64{1, 127, 128, top} {
			l = append(l, mark(next(5), stamp, ahead(x), ahead(x), "k", null), mark(next(5), stamp, behind(x), begin, "k", null), mark(next(5), stamp, end, behind(x), "k", null), set(next(6), stamp, x, "k", null))
		}
	}
	for _, v := range values() {
		l = append(l, embed(next(7), none, none, v), mark(next(8), 1, begin, end, "k", v), set(next(9), 1, none, "k", v))
	}
	l = append(l, set(next(9), 1, none, "k", aMap))
	for _, key := range []string{"\x00", "é\U0001F600", string(make([]byte, api.MaxKey))} {
		l = append(l, mark(next(10), 1, begin, end, key, null), set(next(11), 1, none, key, null))
	}
	l = append(l, embed(id(top, top-2), none, none, null), text(id(top, top-1), none, none, "yz"))
	slices.SortStableFunc(l, func(a, b api.Op) int { return cmp.Compare(a.Id.Client, b.Id.Client) })
	return l
}

func oneNaN(o api.Op) api.Op {
	if math.IsNaN(o.V.F) {
		o.V.F = math.Float64frombits(theNaN)
	}
	return o
}

func alike(a, b api.Value) bool {
	return a.Kind == b.Kind && a.N == b.N && math.Float64bits(a.F) == math.Float64bits(b.F) && a.S == b.S
}

// exactOp: whether a and b are alike to the last bit.
func exactOp(a, b api.Op) bool {
	if !alike(a.V, b.V) {
		return false
	}
	a.V, b.V = null, null
	return a == b
}

func exact(a, b api.Update) bool {
	return slices.EqualFunc(a.Ops, b.Ops, exactOp) && slices.Equal(a.Turns, b.Turns)
}

func copyOf(u api.Update) api.Update {
	return api.Update{Ops: slices.Clone(u.Ops), Turns: slices.Clone(u.Turns)}
}

// short: an update for a failing test to tell, with the beginnings of long texts and lists.
func short(u api.Update) api.Update {
	u.Ops, u.Turns = slices.Clone(u.Ops[:min(len(u.Ops), 8)]), u.Turns[:min(len(u.Turns), 16)]
	for i, o := range u.Ops {
		u.Ops[i].Text = o.Text[:min(len(o.Text), 32)]
		u.Ops[i].V.S = o.V.S[:min(len(o.V.S), 32)]
	}
	return u
}

// lent: an update in memory of its own, with spare room behind its lists.
type lent struct{ u, whole, was api.Update }

func lend(u api.Update) lent {
	whole := api.Update{Ops: append(slices.Clone(u.Ops), at(77, 1, "spare"), at(77, 6, "room")), Turns: append(slices.Clone(u.Turns), turn(77, 1, 9, 5))}
	return lent{api.Update{Ops: whole.Ops[:len(u.Ops)], Turns: whole.Turns[:len(u.Turns)]}, whole, copyOf(whole)}
}

// back: what was lent must be as it was; others' things are laid in it then, which no answer may show.
func (l lent) back(t *testing.T) {
	t.Helper()
	if !exact(l.whole, l.was) {
		t.Fatalf("what was handed in has changed: %v, not %v", short(l.whole), short(l.was))
	}
	overwrite(l.whole.Ops, at(78, 1, "other"))
	overwrite(l.whole.Turns, turn(78, 1, 9, 1))
}

// overwrite lays x all over l, and over its spare room.
func overwrite[T any](l []T, x T) {
	for i := range l[:cap(l)] {
		l[:cap(l)][i] = x
	}
}

// answered: what f answers of what is lent to it. It must be new memory, so that what is laid in it isn't seen when f is asked again.
func answered(t *testing.T, l []lent, f func() api.Update) api.Update {
	t.Helper()
	first := f()
	got := copyOf(first)
	overwrite(first.Ops, at(79, 1, "other"))
	overwrite(first.Turns, turn(79, 1, 9, 1))
	again := f()
	if !exact(again, got) {
		t.Fatalf("asked again: %v, not %v", short(again), short(got))
	}
	for _, x := range l {
		x.back(t)
	}
	if !exact(again, got) {
		t.Fatalf("what was handed in is kept: %v, not %v", short(again), short(got))
	}
	return got
}

func clean(t *testing.T, u api.Update) api.Update {
	t.Helper()
	x := lend(u)
	return answered(t, []lent{x}, func() api.Update { return update.Clean(x.u) })
}

func merge(t *testing.T, l ...api.Update) api.Update {
	t.Helper()
	var hung []lent
	var list []api.Update
	for _, u := range l {
		x := lend(u)
		hung, list = append(hung, x), append(list, x.u)
	}
	list = append(list, turning(turn(77, 1, 9, 5)))
	was := slices.Clone(list)
	got := answered(t, hung, func() api.Update { return update.Merge(list[:len(l)]) })
	for i := range was {
		if len(list[i].Ops) != len(was[i].Ops) || len(list[i].Turns) != len(was[i].Turns) {
			t.Fatalf("what was handed in has changed: number %d", i)
		}
	}
	return got
}

func since(t *testing.T, d *doc.Doc, v []api.Clock, turns []api.Turn) api.Update {
	t.Helper()
	x := lend(api.Update{Turns: turns})
	clocks := append(slices.Clone(v), clock(1, top))
	was, ops, known, pending := slices.Clone(clocks), d.Ops(), d.Turns(), d.Pending()
	got := answered(t, []lent{x}, func() api.Update { return update.Since(d, clocks[:len(v)], x.u.Turns) })
	if !slices.Equal(clocks, was) {
		t.Fatalf("what was handed in has changed: %v, not %v", clocks, was)
	}
	if !slices.EqualFunc(d.Ops(), ops, exactOp) || !slices.Equal(d.Turns(), known) || !slices.EqualFunc(d.Pending(), pending, exactOp) {
		t.Fatal("the document has changed")
	}
	return got
}

func empty(t *testing.T, u api.Update) bool {
	t.Helper()
	x := lend(u)
	got := update.Empty(x.u)
	x.back(t)
	return got
}

// same: what Same answers, which must be the same the other way round.
func same(t *testing.T, a, b api.Update) bool {
	t.Helper()
	x, y := lend(a), lend(b)
	got := update.Same(x.u, y.u)
	if update.Same(y.u, x.u) != got {
		t.Errorf("Same of %v and %v: %t, but not the other way round", short(a), short(b), got)
	}
	x.back(t)
	y.back(t)
	return got
}

func write(t *testing.T, u api.Update) ([]byte, api.Errno) {
	t.Helper()
	x := lend(u)
	first, errno := update.Write(x.u)
	got := slices.Clone(first)
	overwrite(first, 0xEE)
	if again, e := update.Write(x.u); !slices.Equal(again, got) || e != errno {
		t.Fatalf("%v: asked again: %x, %v, not %x, %v", short(u), again, e, got, errno)
	}
	x.back(t)
	return got, errno
}

func read(t *testing.T, b []byte) (api.Update, api.Errno) {
	t.Helper()
	whole := append(slices.Clone(b), 0x51, 0, 0)
	was := slices.Clone(whole)
	var errno api.Errno
	got := answered(t, nil, func() (u api.Update) {
		u, errno = update.Read(whole[:len(b)])
		return u
	})
	last, e := update.Read(whole[:len(b)])
	if !slices.Equal(whole, was) {
		t.Fatalf("what was handed in has changed: %x, not %x", whole, was)
	}
	overwrite(whole, 0xEE)
	if !exact(last, got) || e != errno {
		t.Fatalf("%x: what was handed in is kept: %v, %v, not %v, %v", b, short(last), e, short(got), errno)
	}
	return got, errno
}

// raw: bytes as they are, a number as Uint, a text with its length ahead.
func raw(parts ...any) []byte {
	var b []byte
	for _, part := range parts {
		switch x := part.(type) {
		case byte:
			b = append(b, x)
		case []byte:
			b = append(b, x...)
		case int:
			b = binary.AppendUvarint(b, uint64(x))
		case uint64:
			b = binary.AppendUvarint(b, x)
		case string:
			b = append(binary.AppendUvarint(b, uint64(len(x))), x...)
		default:
			panic("no part of bytes")
		}
	}
	return b
}
