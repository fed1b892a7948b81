package store_test

import (
	"fmt"
	"math"
	"slices"
	"strings"
	"testing"

	"quire/api"
	"quire/ops"
	"quire/store"
)

// of: a store that knows these.
func of(t *testing.T, l ...api.Op) *store.Store {
	t.Helper()
	s := store.New()
	for _, o := range l {
		checkOps(t, "Add", s.Add(o), o)
	}
	return s
}

func checkKnown(t *testing.T, what string, s *store.Store, want ...api.Clock) {
	t.Helper()
	if got := s.Known(); !slices.Equal(got, want) {
		t.Fatalf("%s: Known: %v, not %v", what, got, want)
	}
}

func checkGet(t *testing.T, s *store.Store, x api.Id, want api.Op) {
	t.Helper()
	if got, ok := s.Get(x); !ok || !exact(got, want) {
		t.Fatalf("Get %v: %v, %v, not %v", x, told(got), ok, told(want))
	}
}

func checkNothing(t *testing.T, s *store.Store, x api.Id) {
	t.Helper()
	if got, ok := s.Get(x); ok || !exact(got, api.Op{}) {
		t.Fatalf("Get %v: %v, %v", x, told(got), ok)
	}
}

func TestP10_1New(t *testing.T) {
	s := store.New()
	checkKnown(t, "nothing", s)
	checkOps(t, "Since of nothing", s.Since(nil))
	checkOps(t, "Since of nothing", s.Since([]api.Clock{{Client: 1, Clock: 1}, {}}))
	checkNothing(t, s, none)
	checkNothing(t, s, id(1, 1))
	if o, ok := s.Next(); ok || !exact(o, api.Op{}) || s.Waiting() != 0 {
		t.Errorf("Next of nothing: %v, %v, Waiting %d", o, ok, s.Waiting())
	}
}

func TestP10_1AddRefuses(t *testing.T) {
	for _, known := range [][]api.Op{nil, {at(1, 1, "xy")}} {
		s := of(t, known...)
		was := s.Known()
		for _, o := range wrongOps() {
			checkOps(t, "Add of what Check refuses", s.Add(o))
			checkKnown(t, "Add of what Check refuses", s, was...)
			checkOps(t, "Since", s.Since(nil), known...)
		}
	}
}

// TestP10_1Add: a store knows "a😀€" of client 1 and nothing else; each is added to such a one.
func TestP10_1Add(t *testing.T) {
	known := at(1, 1, "a\U0001F600€")
	for _, x := range []struct {
		what  string
		o     api.Op
		want  []api.Op
		knows uint64
	}{
		{"right behind", at(1, 4, "b"), []api.Op{at(1, 4, "b")}, 4},
		{"right behind, of several runes", at(1, 4, "bß\U0001D11E"), []api.Op{at(1, 4, "bß\U0001D11E")}, 6},
		{"a gap of one", at(1, 5, "b"), nil, 3},
		{"a wide gap", at(1, 500, "b"), nil, 3},
		{"the last clock", at(1, top, "b"), nil, 3},
		{"all known", known, nil, 3},
		{"its beginning", at(1, 1, "a"), nil, 3},
		{"its middle", at(1, 2, "\U0001F600"), nil, 3},
		{"its end", at(1, 3, "€"), nil, 3},
		{"one of it known", at(1, 3, "€b"), []api.Op{at(1, 4, "b")}, 4},
		{"two of it known", at(1, 2, "\U0001F600€bc"), []api.Op{at(1, 4, "bc")}, 5},
		{"three of it known", at(1, 1, "a\U0001F600€ßc"), []api.Op{at(1, 4, "ßc")}, 5},
		{"an embed", embed(1, 4), []api.Op{embed(1, 4)}, 4},
		{"a mark", mark(1, 4), []api.Op{mark(1, 4)}, 4},
		{"a set", set(1, 4), []api.Op{set(1, 4)}, 4},
		{"an embed behind a gap", embed(1, 5), nil, 3},
		{"as long as can be", at(1, 4, strings.Repeat("€", full)), []api.Op{at(1, 4, strings.Repeat("€", full))}, full + 3},
		{"as long as can be, a part known", at(1, 3, strings.Repeat("€", full)), []api.Op{at(1, 4, strings.Repeat("€", full-1))}, full + 2},
	} {
		s := of(t, known)
		checkOps(t, x.what, s.Add(x.o), x.want...)
		checkKnown(t, x.what, s, api.Clock{Client: 1, Clock: x.knows})
		checkOps(t, x.what+", again", s.Add(x.o))
		checkKnown(t, x.what+", again", s, api.Clock{Client: 1, Clock: x.knows})
		checkOps(t, x.what, s.Since(nil), ops.Join(append([]api.Op{known}, x.want...))...)
	}
}

func TestP10_1AddOfTheFirst(t *testing.T) {
	for _, o := range []api.Op{at(1, 1, "a"), at(top, 1, "ab"), embed(3, 1), mark(3, 1), set(3, 1), at(5, 1, strings.Repeat("\U0001F600", full))} {
		s := store.New()
		checkOps(t, "a gap", s.Add(at(o.Id.Client, 2, "b")))
		checkKnown(t, "a gap", s)
		checkOps(t, "Since behind a gap", s.Since(nil))
		checkOps(t, "the first", s.Add(o), o)
		checkKnown(t, "the first", s, api.Clock{Client: o.Id.Client, Clock: uint64(ops.Len(o))})
		checkOps(t, "Since", s.Since(nil), o)
	}
}

// TestP10_1AddCutsByRunes: what is left of a text whose beginning is known keeps its Right, and has the last known id as its Left.
func TestP10_1AddCutsByRunes(t *testing.T) {
	whole := text(2, 1, id(9, 4), id(9, 5), "ß€\U0001F600z")
	for n := 1; n < ops.Len(whole); n++ {
		head, _ := ops.Cut(whole, 0, n)
		tail := text(2, uint64(n)+1, id(2, uint64(n)), id(9, 5), string([]rune(whole.Text)[n:]))
		s := of(t, head)
		checkOps(t, "the whole", s.Add(whole), tail)
		checkOps(t, "Since", s.Since(nil), whole)
	}
}

// TestP10_1NoNaNButOne: what an operation carries is told with the one NaN (DOC.md, rule 10), and with -0 as it came.
func TestP10_1NoNaNButOne(t *testing.T) {
	for bits, want := range map[uint64]uint64{0x7FF8000000000001: 0x7FF8000000000000, 0xFFF0000000000001: 0x7FF8000000000000, 1 << 63: 1 << 63} {
		o, clean := embed(1, 1), embed(1, 1)
		o.V = api.Value{Kind: api.ValFloat, F: math.Float64frombits(bits)}
		clean.V = api.Value{Kind: api.ValFloat, F: math.Float64frombits(want)}
		s := store.New()
		s.Wait(o)
		if got, ok := s.Next(); !ok || !exact(got, clean) {
			t.Errorf("Next: %v", got)
		}
		checkOps(t, "Add", s.Add(o), clean)
		checkGet(t, s, o.Id, clean)
		checkOps(t, "Since", s.Since(nil), clean)
	}
}

func TestP10_1Known(t *testing.T) {
	s := store.New()
	var want []api.Clock
	for i, client := range []uint64{top, 1, 9, top - 1, 2, 500, 3} {
		n := i%3 + 1
		s.Wait(at(client, 10, "z")) // what waits isn't known
		checkOps(t, "Add", s.Add(at(client, 1, "abc"[:n])), at(client, 1, "abc"[:n]))
		want = append(want, api.Clock{Client: client, Clock: uint64(n)})
		slices.SortFunc(want, func(a, b api.Clock) int {
			if a.Client < b.Client {
				return -1
			}
			return 1
		})
		checkKnown(t, "several clients", s, want...)
	}
	s.Wait(at(4, 2, "z"))
	checkKnown(t, "one of whom something waits alone", s, want...)
}

func TestP10_1Get(t *testing.T) {
	whole := text(1, 1, id(9, 4), id(9, 5), "a\U0001F600€")
	s := of(t, whole, embed(1, 4), mark(1, 5), set(1, 6), at(1, 7, "b"), at(2, 1, "c"))
	s.Wait(at(1, 8, "w"))
	s.Wait(at(1, 20, "w"))
	s.Wait(at(3, 1, "w"))
	checkGet(t, s, id(1, 1), text(1, 1, id(9, 4), id(9, 5), "a"))
	checkGet(t, s, id(1, 2), text(1, 2, id(1, 1), id(9, 5), "\U0001F600"))
	checkGet(t, s, id(1, 3), text(1, 3, id(1, 2), id(9, 5), "€"))
	checkGet(t, s, id(1, 4), embed(1, 4))
	checkGet(t, s, id(1, 5), mark(1, 5))
	checkGet(t, s, id(1, 6), set(1, 6))
	checkGet(t, s, id(1, 7), at(1, 7, "b"))
	checkGet(t, s, id(2, 1), at(2, 1, "c"))
	for _, x := range []api.Id{
		none, id(0, 1), id(1, 0), id(1, 8), id(1, 9), id(1, 20), id(2, 2), id(3, 1), id(4, 1), id(1, top), id(top, 1), id(1, top+1),
		id(1, math.MaxUint64), id(math.MaxUint64, 1), id(math.MaxUint64, math.MaxUint64),
	} {
		checkNothing(t, s, x)
	}
}

// longRow: so many runes of client 1, of one to four bytes, from clock 1 on.
func longRow(n int) []rune {
	var out []rune
	for k := range n {
		out = append(out, []rune{'a' + rune(k%26), 'ß', 'は' + rune(k%50), 0x1F600 + rune(k%60)}[k%4])
	}
	return out
}

// rowPiece: of such a row the runes from from on below to, however many.
func rowPiece(runes []rune, from, to int) api.Op {
	o := text(1, uint64(from)+1, id(9, 4), id(9, 5), string(runes[from:to]))
	if from > 0 {
		o.Left = id(1, uint64(from))
	}
	return o
}

func TestP10_1GetOfEachRune(t *testing.T) {
	runes := longRow(2*full + 100)
	s := store.New()
	for from := 0; from < len(runes); {
		to := min(from+1+from*7%full, len(runes))
		checkOps(t, "Add", s.Add(rowPiece(runes, from, to)), rowPiece(runes, from, to))
		from = to
	}
	for k := range runes {
		checkGet(t, s, id(1, uint64(k)+1), rowPiece(runes, k, k+1))
	}
	checkNothing(t, s, id(1, uint64(len(runes))+1))
}

// rowFrom: by ops.Join's words, a row from a rune on.
func rowFrom(runes []rune, from int) []api.Op {
	var out []api.Op
	for ; from < len(runes); from += full {
		out = append(out, rowPiece(runes, from, min(from+full, len(runes))))
	}
	return out
}

// TestP10_1SinceOfLongRows: in whichever pieces a row came, it is told in pieces of MaxText runes from the first on that v doesn't know.
func TestP10_1SinceOfLongRows(t *testing.T) {
	for _, n := range []int{1, full - 1, full, full + 1, 2 * full, 2*full + 3} {
		runes := longRow(n)
		for _, size := range []int{1, 7, full - 1, full} {
			s := store.New()
			for from := 0; from < n; from += size {
				begin := max(0, from-min(3, full-size)) // some of each is known already
				s.Add(rowPiece(runes, begin, min(from+size, n)))
			}
			checkKnown(t, "a long row", s, api.Clock{Client: 1, Clock: uint64(n)})
			for _, from := range []int{0, 1, 2, size - 1, size, size + 1, full - 1, full, full + 1, 2*full - 1, 2 * full, 2*full + 1, n - 1, n, n + 1} {
				what := fmt.Sprintf("%d runes by %d, from %d on", n, size, from)
				checkOps(t, what, s.Since([]api.Clock{{Client: 1, Clock: uint64(from)}}), rowFrom(runes, from)...)
			}
		}
	}
}

// TestP10_1SinceJoins: what was cut when it came is joined, and nothing else is.
func TestP10_1SinceJoins(t *testing.T) {
	a, b := text(1, 1, id(9, 1), id(9, 2), "aé"), text(1, 3, id(1, 2), id(9, 2), "\U0001F600d")
	joined := text(1, 1, id(9, 1), id(9, 2), "aé\U0001F600d")
	elsewhere, ahead, unlike := b, b, b
	elsewhere.Left = id(9, 3)
	ahead.Left = id(1, 1)
	unlike.Right = none
	for _, x := range []struct {
		what string
		l    []api.Op
		want []api.Op
	}{
		{"fits", []api.Op{a, b}, []api.Op{joined}},
		{"another one's Left", []api.Op{a, elsewhere}, []api.Op{a, elsewhere}},
		{"a Left that isn't the last", []api.Op{a, ahead}, []api.Op{a, ahead}},
		{"another Right", []api.Op{a, unlike}, []api.Op{a, unlike}},
		{"an embed ahead", []api.Op{embed(1, 1), at(1, 2, "b")}, []api.Op{embed(1, 1), at(1, 2, "b")}},
		{"an embed behind", []api.Op{at(1, 1, "a"), embed(1, 2)}, []api.Op{at(1, 1, "a"), embed(1, 2)}},
		{"an embed between", []api.Op{at(1, 1, "a"), embed(1, 2), at(1, 3, "c")}, []api.Op{at(1, 1, "a"), embed(1, 2), at(1, 3, "c")}},
		{"embeds, marks, sets", []api.Op{embed(1, 1), embed(1, 2), mark(1, 3), mark(1, 4), set(1, 5), set(1, 6)}, []api.Op{embed(1, 1), embed(1, 2), mark(1, 3), mark(1, 4), set(1, 5), set(1, 6)}},
		{"another client", []api.Op{at(2, 1, "b"), at(1, 1, "a"), at(2, 2, "c")}, []api.Op{at(1, 1, "a"), at(2, 1, "bc")}},
	} {
		checkOps(t, x.what, of(t, x.l...).Since(nil), x.want...)
	}
}

func TestP10_1Since(t *testing.T) {
	s := of(t, at(5, 1, "ß€\U0001F600"), embed(5, 4), at(2, 1, "xy"), set(top, 1), at(5, 5, "q"), mark(2, 3))
	x, y, m, k := at(2, 1, "x"), at(2, 2, "y"), mark(2, 3), set(top, 1)
	whole, tail, e, q := at(5, 1, "ß€\U0001F600"), at(5, 2, "€\U0001F600"), embed(5, 4), at(5, 5, "q")
	xy := x
	xy.Text = "xy"
	for _, c := range []struct {
		what string
		v    []api.Clock
		want []api.Op
	}{
		{"of nothing", nil, []api.Op{xy, m, whole, e, q, k}},
		{"of an empty vector", []api.Clock{}, []api.Op{xy, m, whole, e, q, k}},
		{"of all", s.Known(), nil},
		{"of a part of a text", []api.Clock{{Client: 5, Clock: 1}}, []api.Op{xy, m, tail, e, q, k}},
		{"of parts of two", []api.Clock{{Client: 2, Clock: 1}, {Client: 5, Clock: 2}}, []api.Op{y, m, at(5, 3, "\U0001F600"), e, q, k}},
		{"of a whole text", []api.Clock{{Client: 5, Clock: 3}}, []api.Op{xy, m, e, q, k}},
		{"of all but the last", []api.Clock{{Client: 5, Clock: 4}}, []api.Op{xy, m, q, k}},
		{"of more than there is", []api.Clock{{Client: 2, Clock: 99}, {Client: 5, Clock: 6}, {Client: top, Clock: top}}, nil},
		{"of others", []api.Clock{{Client: 1, Clock: 9}, {Client: 3, Clock: 9}}, []api.Op{xy, m, whole, e, q, k}},
		{"out of order", []api.Clock{{Client: top, Clock: 1}, {Client: 5, Clock: 3}, {Client: 2, Clock: 3}}, []api.Op{e, q}},
		{"doubled", []api.Clock{{Client: 5, Clock: 3}, {Client: 5, Clock: 1}, {Client: 2, Clock: 1}, {Client: 2, Clock: 2}}, []api.Op{m, e, q, k}},
		{"clocks of 0", []api.Clock{{Client: 5}, {Client: 2}, {}}, []api.Op{xy, m, whole, e, q, k}},
		{"clients that there aren't", []api.Clock{{Client: 0, Clock: 9}, {Client: top + 1, Clock: 9}, {Client: math.MaxUint64, Clock: 9}}, []api.Op{xy, m, whole, e, q, k}},
		{"clocks above all", []api.Clock{{Client: 5, Clock: top + 1}, {Client: 2, Clock: math.MaxUint64}}, []api.Op{k}},
	} {
		v := slices.Concat(c.v, c.v)
		was := slices.Clone(v)
		checkOps(t, "Since "+c.what, s.Since(v[:len(c.v)]), c.want...)
		if !slices.Equal(v, was) {
			t.Errorf("Since %s: what was handed in has changed", c.what)
		}
	}
}

func TestP10_1WhatWaitsIsNotTold(t *testing.T) {
	s := of(t, at(1, 1, "a"))
	s.Wait(at(1, 2, "b"))
	s.Wait(at(2, 1, "c"))
	checkKnown(t, "what waits", s, api.Clock{Client: 1, Clock: 1})
	checkOps(t, "what waits", s.Since(nil), at(1, 1, "a"))
	checkOps(t, "what waits", s.Add(at(1, 2, "b")), at(1, 2, "b"))
	checkOps(t, "what waits", s.Since(nil), at(1, 1, "ab"))
}

// TestP10_1AnswersStay: what was told stays as it was, whatever comes later; and a caller who writes into it changes nothing of the store.
func TestP10_1AnswersStay(t *testing.T) {
	type answer struct {
		ops   []api.Op
		known []api.Clock
	}
	var got, was []answer
	s := store.New()
	keep := func(l []api.Op) {
		got = append(got, answer{l, s.Known()})
		was = append(was, answer{slices.Clone(l), s.Known()})
	}
	for clock := uint64(1); clock < 60; clock += 2 {
		for _, client := range []uint64{3, 1, 2} {
			keep(s.Add(at(client, clock, "ßx")))
			keep(s.Since(nil))
			keep(s.Since([]api.Clock{{Client: 1, Clock: clock / 2}}))
			o, _ := s.Get(id(client, clock))
			keep([]api.Op{o})
		}
	}
	for i := range got {
		checkOps(t, "an earlier answer", got[i].ops, was[i].ops...)
		if !slices.Equal(got[i].known, was[i].known) {
			t.Fatalf("an earlier Known: %v, not %v", got[i].known, was[i].known)
		}
	}
	all, known := s.Since(nil), s.Known()
	for _, x := range got {
		clear(x.ops[:cap(x.ops)])
		clear(x.known[:cap(x.known)])
	}
	checkOps(t, "Since", s.Since(nil), all...)
	checkKnown(t, "written into", s, known...)
}
