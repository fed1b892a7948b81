package undo_test

import (
	"slices"
	"testing"

	"quire/api"
	"quire/doc"
	"quire/ops"
)

func TestP18_2Invert(t *testing.T) {
	abcd := up(at(1, 1, "abcd"))
	backward := text(id(2, 1), id(1, 4), id(1, 1), "vw") // void: its Right stands ahead of its Left
	nowhere := mark(id(2, 3), 1, ahead(id(2, 1)), end, "k", null)
	kinds := up(at(1, 1, "abcd"), embed(id(1, 5), none, none, integer(3)), mark(id(1, 6), 1, begin, end, "k", null), set(id(1, 7), 1, none, "m", aMap), set(id(2, 1), 1, id(1, 7), "k", null))
	for _, x := range []struct {
		what string
		d    *doc.Doc
		step api.Update
		want []api.Turn
	}{
		{"of nothing", of(t, abcd), api.Update{}, nil},
		{"of nothing right", of(t, both(kinds, turn(1, 1, 4, 1))), wrong(), nil},
		{"in an empty document", doc.New(), both(abcd, turn(1, 1, 9, 1), turn(1, 9, 20, 2)), nil},
		{"what it made", of(t, abcd), up(at(1, 1, "abcd")), []api.Turn{turn(1, 1, 5, 1)}},
		{"a piece of what is known", of(t, abcd), up(at(1, 2, "bc")), []api.Turn{turn(1, 2, 4, 1)}},
		{"each kind", of(t, kinds), kinds, []api.Turn{turn(1, 1, 8, 1), turn(2, 1, 2, 1)}},
		{"each kind apart", of(t, kinds), up(kinds.Ops[4], kinds.Ops[2], kinds.Ops[1]), []api.Turn{turn(1, 5, 7, 1), turn(2, 1, 2, 1)}},
		{"each kind was hidden", of(t, both(kinds, turn(1, 1, 8, 1), turn(2, 1, 2, 1))), turning(turn(1, 5, 8, 1), turn(2, 1, 2, 7)), []api.Turn{turn(1, 5, 8, 2), turn(2, 1, 2, 2)}},
		{"each kind was shown", of(t, kinds), turning(turn(1, 5, 8, 2), turn(2, 1, 2, 8)), []api.Turn{turn(1, 5, 8, 1), turn(2, 1, 2, 1)}},
		{"of what is known in part", of(t, abcd), up(at(1, 3, "cdef")), []api.Turn{turn(1, 3, 5, 1)}},
		{"of what isn't known", of(t, abcd), up(at(1, 5, "e"), at(3, 1, "x")), nil},
		{"of what waits", of(t, abcd, up(at(1, 6, "f"))), both(up(at(1, 6, "f")), turn(1, 6, 7, 2)), nil},
		{"of what was turned, but isn't known", of(t, both(abcd, turn(1, 5, 9, 1), turn(3, 1, 9, 2))), turning(turn(1, 4, 9, 1), turn(3, 1, 9, 2)), nil},
		{"overlapping operations", of(t, abcd), up(at(1, 1, "abc"), at(1, 2, "bcd"), at(1, 1, "a")), []api.Turn{turn(1, 1, 5, 1)}},
		{"of one id a shorter one first", of(t, abcd), up(at(1, 1, "a"), at(1, 1, "abc")), []api.Turn{turn(1, 1, 4, 1)}},
		{"wrong operations of known ids", of(t, abcd), up(append(wrong().Ops, at(1, 4, "d"))...), []api.Turn{turn(1, 4, 5, 1)}},
		{"a text that is too long", of(t, abcd), up(at(1, 1, string(make([]byte, api.MaxText+1)))), nil},
		{"made ones of turns of all kinds", of(t, both(abcd, turn(1, 1, 2, 2), turn(1, 2, 3, 5), turn(1, 3, 4, 8))), abcd, []api.Turn{turn(1, 1, 2, 3), turn(1, 3, 4, 9), turn(1, 4, 5, 1)}},
		{"made ones that are all deleted", of(t, both(abcd, turn(1, 1, 5, 1))), abcd, nil},
		{"hidden, and still deleted", of(t, both(abcd, turn(1, 2, 4, 1))), turning(turn(1, 2, 4, 1)), []api.Turn{turn(1, 2, 4, 2)}},
		{"hidden, and deleted by others once more", of(t, both(abcd, turn(1, 2, 4, 3))), turning(turn(1, 2, 4, 1)), []api.Turn{turn(1, 2, 4, 4)}},
		{"hidden, and brought back", of(t, both(abcd, turn(1, 2, 4, 2))), turning(turn(1, 2, 4, 1)), nil},
		{"hidden, and never told", of(t, abcd), turning(turn(1, 2, 4, 1)), nil},
		{"shown, and still there", of(t, both(abcd, turn(1, 2, 4, 2))), turning(turn(1, 2, 4, 2)), []api.Turn{turn(1, 2, 4, 3)}},
		{"shown, and shown once more", of(t, both(abcd, turn(1, 2, 4, 4))), turning(turn(1, 2, 4, 2)), []api.Turn{turn(1, 2, 4, 5)}},
		{"shown, and deleted", of(t, both(abcd, turn(1, 2, 4, 3))), turning(turn(1, 2, 4, 2)), nil},
		{"shown, though never hidden", of(t, abcd), turning(turn(1, 2, 4, 2)), []api.Turn{turn(1, 2, 4, 1)}},
		{"hidden and shown", of(t, both(abcd, turn(1, 1, 3, 1), turn(1, 3, 5, 2))), turning(turn(1, 1, 2, 1), turn(1, 2, 3, 2), turn(1, 3, 4, 1), turn(1, 4, 5, 2)), []api.Turn{turn(1, 1, 2, 2), turn(1, 4, 5, 3)}},
		{"turns that overlap: the greatest counts", of(t, both(abcd, turn(1, 1, 3, 1))), turning(turn(1, 1, 5, 1), turn(1, 2, 4, 2)), []api.Turn{turn(1, 1, 2, 2), turn(1, 3, 4, 1)}},
		{"turns that overlap: the greatest one first", of(t, both(abcd, turn(1, 1, 5, 1))), turning(turn(1, 1, 5, 4), turn(1, 2, 4, 3), turn(1, 2, 4, 5)), []api.Turn{turn(1, 2, 4, 2)}},
		{"made and hidden, and not deleted", of(t, abcd), both(abcd, turn(1, 2, 4, 1)), []api.Turn{turn(1, 1, 5, 1)}},
		{"made and hidden, and deleted", of(t, both(abcd, turn(1, 2, 4, 1))), both(abcd, turn(1, 2, 4, 1)), []api.Turn{turn(1, 1, 2, 1), turn(1, 4, 5, 1)}},
		{"made and shown, and not deleted", of(t, both(abcd, turn(1, 2, 4, 2))), both(abcd, turn(1, 2, 4, 2)), []api.Turn{turn(1, 1, 2, 1), turn(1, 2, 4, 3), turn(1, 4, 5, 1)}},
		{"made and shown, and deleted", of(t, both(abcd, turn(1, 2, 4, 3))), both(abcd, turn(1, 2, 4, 2)), []api.Turn{turn(1, 1, 2, 1), turn(1, 4, 5, 1)}},
		{"made in part, hidden in part, deleted", of(t, both(abcd, turn(1, 1, 5, 1))), both(up(at(1, 2, "b")), turn(1, 2, 4, 1)), []api.Turn{turn(1, 3, 4, 2)}},
		{"wrong operations make nothing", of(t, both(abcd, turn(1, 1, 3, 1))), api.Update{Ops: wrong().Ops, Turns: []api.Turn{turn(1, 1, 3, 1)}}, []api.Turn{turn(1, 1, 3, 2)}},
		{"made by a void one", of(t, abcd, up(backward, nowhere)), both(up(backward, nowhere, at(1, 2, "b"))), []api.Turn{turn(1, 2, 3, 1)}},
		{"turned, of a void one", of(t, both(abcd, turn(2, 1, 2, 1)), up(backward, nowhere)), turning(turn(2, 1, 2, 1), turn(2, 2, 4, 2)), nil},
		{"between void ones", of(t, abcd, up(backward, nowhere, text(id(2, 4), none, none, "y"), text(id(2, 5), id(1, 4), id(1, 1), "v"), text(id(2, 6), none, id(1, 1), "z"))), turning(turn(2, 1, top+1, 2)), []api.Turn{turn(2, 4, 5, 1), turn(2, 6, 7, 1)}},
		{"turns of all ids that there can be", of(t, both(abcd, turn(1, 2, 3, 1), turn(5, 1, top+1, 1)), up(at(top, 1, "xyz"))), turning(turn(1, 1, top+1, 1), turn(5, 1, top+1, 1), turn(top, 1, top+1, 2)), []api.Turn{turn(1, 2, 3, 2), turn(top, 1, 4, 1)}},
		{"turns of several clients", of(t, abcd, up(at(3, 1, "xy")), up(at(2, 1, "v"))), up(at(3, 2, "y"), at(1, 4, "d"), at(2, 1, "v")), []api.Turn{turn(1, 4, 5, 1), turn(2, 1, 2, 1), turn(3, 2, 3, 1)}},
		{"hidden at MaxId", of(t, both(abcd, turn(1, 2, 3, top), turn(1, 3, 4, 1))), turning(turn(1, 1, 5, 1)), nil},
		{"hidden one below it", of(t, both(abcd, turn(1, 2, 3, top-2), turn(1, 3, 4, 1))), turning(turn(1, 1, 5, 1)), []api.Turn{turn(1, 2, 3, top-1), turn(1, 3, 4, 2)}},
		{"to be hidden at MaxId", of(t, both(abcd, turn(1, 2, 3, top-1))), abcd, []api.Turn{turn(1, 1, 2, 1), turn(1, 2, 3, top), turn(1, 3, 5, 1)}},
		{"to be hidden, but hidden at MaxId", of(t, both(abcd, turn(1, 2, 3, top))), abcd, []api.Turn{turn(1, 1, 2, 1), turn(1, 3, 5, 1)}},
		{"a turn at MaxId of others' ids", of(t, both(abcd, turn(1, 4, 5, top), turn(1, 1, 4, 1))), turning(turn(1, 1, 4, 1)), []api.Turn{turn(1, 1, 4, 2)}},
		{"a turn at MaxId of a void one", of(t, both(abcd, turn(2, 1, 4, top), turn(1, 1, 2, 1)), up(backward, nowhere)), turning(turn(2, 1, 4, 1), turn(1, 1, 2, 1)), []api.Turn{turn(1, 1, 2, 2)}},
		{"a turn at MaxId of the step", of(t, both(abcd, turn(1, 1, 2, 1))), turning(turn(1, 1, 5, top)), []api.Turn{turn(1, 1, 2, 2)}},
		{"even turns that touch become one", of(t, both(abcd, turn(1, 1, 2, 1))), both(turning(turn(1, 1, 2, 1)), turn(1, 2, 3, 2)), []api.Turn{turn(1, 1, 2, 2), turn(1, 2, 3, 1)}},
	} {
		got, some := invert(t, x.d, x.step)
		if !slices.Equal(got.Turns, x.want) || some != (len(x.want) > 0) {
			t.Errorf("%s: %v, %t, not %v", x.what, got.Turns, some, x.want)
		}
		if u, too := inverts(x.d, x.step); !slices.Equal(u.Turns, x.want) || too != some {
			t.Errorf("%s: the model has %v", x.what, u.Turns)
		}
	}
}

// TestP18_2Long: a step of many operations and turns, and a turn of all of them.
func TestP18_2Long(t *testing.T) {
	var l []api.Op
	var turns []api.Turn
	for n := uint64(1); n <= api.MaxOps; n++ {
		l = append(l, text(id(1, n), none, none, "a"))
		turns = append(turns, turn(1, n, n+1, 1+n%3))
	}
	d := of(t, up(l...), turning(turns...))
	for _, x := range []struct {
		what string
		step api.Update
		odd  bool // whether deleted ones are turned
	}{{"made", up(l...), false}, {"hidden", turning(turn(1, 1, top, 5)), true}, {"shown", turning(turn(1, 1, top, 6)), false}} {
		got, _ := invert(t, d, x.step)
		at := 0
		for _, was := range turns {
			if (was.N%2 == 1) != x.odd {
				continue
			}
			if at == len(got.Turns) || got.Turns[at].From > was.From || got.Turns[at].To < was.To || got.Turns[at].N != was.N+1 {
				t.Fatalf("%s: %v isn't turned", x.what, was)
			}
			if got.Turns[at].To == was.To {
				at++
			}
		}
		if at != len(got.Turns) {
			t.Errorf("%s: %d turns, not %d", x.what, len(got.Turns), at)
		}
	}
}

// anything: an update of operations and turns about ids of a few clients.
func anything(next func(int) int) api.Update {
	var u api.Update
	some := func() api.Id { return id(uint64(1+next(3)), uint64(1+next(9))) }
	origin := func() api.Id {
		if next(2) == 0 {
			return none
		}
		return some()
	}
	for range next(4) {
		x := some()
		switch next(7) {
		case 0:
			u.Ops = append(u.Ops, embed(x, origin(), origin(), integer(1)))
		case 1:
			u.Ops = append(u.Ops, mark(x, 1, ahead(origin()), behind(origin()), "k", null))
		case 2:
			u.Ops = append(u.Ops, set(x, 1, origin(), "k", aMap))
		case 3:
			u.Ops = append(u.Ops, wrong().Ops[next(len(wrong().Ops))])
		default:
			u.Ops = append(u.Ops, text(x, origin(), origin(), "abcdef"[:1+next(6)]))
		}
	}
	for range next(5) {
		x := some()
		u.Turns = append(u.Turns, turn(x.Client, x.Clock, x.Clock+uint64(next(5)), []uint64{1, 2, 3, 4, 5, top - 2, top - 1, top}[next(5)+next(4)]))
		if next(8) == 1 {
			u.Turns[len(u.Turns)-1].To = top + 1
		}
	}
	return u
}

// checkInvert holds Invert to the chapter's words, in a document that was told drawn things.
func checkInvert(t *testing.T, next func(int) int) {
	t.Helper()
	d := doc.New()
	for client := range uint64(4) {
		apply(t, d, up(at(client+1, 1, "abcd"[:1+next(4)])))
	}
	for range next(6) {
		if u := anything(next); !slices.ContainsFunc(u.Ops, func(o api.Op) bool { return ops.Check(o) != api.OK }) {
			apply(t, d, u)
		}
	}
	for range 4 {
		step := anything(next)
		got, some := invert(t, d, step)
		want, too := inverts(d, step)
		if !exact(got, want) || some != too {
			t.Fatalf("%v in %v: %v, %t, not %v, %t", step, all(d), got, some, want, too)
		}
	}
}

func TestP18_2Drawn(t *testing.T) {
	for seed := range int64(1500) {
		checkInvert(t, drawn(seed))
	}
}

func FuzzP18_2Invert(f *testing.F) {
	f.Add([]byte{3, 1, 2, 3, 4, 5, 6, 7, 8, 9, 8, 7, 6, 5, 4, 3, 2, 1})
	f.Fuzz(func(t *testing.T, b []byte) { checkInvert(t, given(b)) })
}
