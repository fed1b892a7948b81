package undo_test

import (
	"fmt"
	"testing"

	"quire/api"
	"quire/doc"
	"quire/undo"
)

func TestP18Example(t *testing.T) {
	d, s := doc.New(), undo.New(1)
	note(t, s, makes(t, d, 1, inserts(0, "abc")), 0)
	note(t, s, makes(t, d, 1, deletes(1, 1)), 1)
	checkLook(t, "made", d, "ac")
	does(t, "undo", d, s.Undo, turn(1, 2, 3, 2))
	checkLook(t, "undone", d, "abc")
	does(t, "undo", d, s.Undo, turn(1, 1, 2, 1), turn(1, 2, 3, 3), turn(1, 3, 4, 1))
	checkLook(t, "all undone", d, "")
	does(t, "undo: none", d, s.Undo)
	does(t, "redo", d, s.Redo, turn(1, 1, 2, 2), turn(1, 2, 3, 4), turn(1, 3, 4, 2))
	checkLook(t, "done again", d, "abc")
	does(t, "redo", d, s.Redo, turn(1, 2, 3, 5))
	checkLook(t, "all done again", d, "ac")
	does(t, "redo: none", d, s.Redo)
}

func TestP18_1Steps(t *testing.T) {
	d, s := of(t, up(at(1, 1, "a"))), undo.New(1)
	checkSteps(t, "new", s, 0, 0)
	s.Close()
	checkSteps(t, "closed", s, 0, 0)
	does(t, "of none", d, s.Undo)
	does(t, "of none", d, s.Redo)
	checkSteps(t, "asked", s, 0, 0)
	for n := range 5 {
		note(t, s, up(at(1, uint64(n+1), "a")), uint64(n))
		checkSteps(t, "noted", s, n+1, 0)
	}
}

func TestP18_1Window(t *testing.T) {
	const most = forever
	for _, x := range []struct {
		window uint64
		ticks  []uint64
		want   []int // how many steps there are behind each
	}{
		{0, []uint64{0, 0, 1, 1, 0, 0, most, most}, []int{1, 1, 2, 2, 3, 3, 4, 4}}, // as 1
		{1, []uint64{0, 0, 1, 1, 0, 0, most, most}, []int{1, 1, 2, 2, 3, 3, 4, 4}},
		{2, []uint64{5, 6, 6, 7, 8, 9, 8}, []int{1, 1, 1, 2, 2, 3, 4}},
		{5, []uint64{10, 14, 15, 14, 18, most, 2}, []int{1, 1, 2, 3, 3, 4, 5}},
		{5, []uint64{10, 12, 14, 11, 10, 9}, []int{1, 1, 1, 1, 1, 2}}, // its tick is its first one's, though later ones came
		{5, []uint64{10, 14, 14, 15, 19, 20}, []int{1, 1, 1, 2, 2, 3}},
		{5, []uint64{10, 9, 10, 13, 14}, []int{1, 2, 2, 2, 3}},
		{5, []uint64{most - 4, most - 1, most, 0, 4, 5}, []int{1, 1, 1, 2, 2, 3}},
		{most, []uint64{0, most - 1, most, most, 0}, []int{1, 1, 2, 2, 3}},
		{most, []uint64{1, most, 0, most - 1, most}, []int{1, 1, 2, 2, 3}},
	} {
		s := undo.New(x.window)
		for i, tick := range x.ticks {
			note(t, s, turning(turn(1, uint64(i+1), uint64(i+2), 1)), tick)
			checkSteps(t, fmt.Sprintf("window %d, ticks %v", x.window, x.ticks[:i+1]), s, x.want[i], 0)
		}
	}
}

// emptyOnes: updates that have nothing right.
func emptyOnes() []api.Update {
	return []api.Update{{}, {Ops: []api.Op{}, Turns: []api.Turn{}}, wrong(), {Ops: wrong().Ops}, {Turns: wrong().Turns}}
}

func TestP18_1EmptySaysNothing(t *testing.T) {
	for _, empty := range emptyOnes() {
		d, s := of(t, up(at(1, 1, "abc"))), undo.New(5)
		note(t, s, empty, 3)
		checkSteps(t, "an empty one first", s, 0, 0)
		note(t, s, up(at(1, 1, "a")), 10)
		note(t, s, empty, 30) // no other step
		note(t, s, up(at(1, 2, "b")), 14)
		checkSteps(t, "an empty one between", s, 1, 0)
		note(t, s, empty, 14)
		note(t, s, up(at(1, 3, "c")), 15)
		checkSteps(t, "an empty one doesn't move the window", s, 2, 0)
		s.Close()
		note(t, s, empty, 15)
		note(t, s, up(at(1, 3, "c")), 15)
		checkSteps(t, "an empty one doesn't open", s, 3, 0)
		does(t, "undo", d, s.Undo, turn(1, 3, 4, 1))
		note(t, s, empty, 15)
		checkSteps(t, "an empty one leaves what was undone", s, 2, 1)
		does(t, "redo", d, s.Redo, turn(1, 3, 4, 2))
	}
}

func TestP18_1OpenTill(t *testing.T) {
	a, b := up(at(1, 1, "a")), up(at(1, 2, "b"))
	tells := of(t, up(at(1, 1, "ab")))
	silent := doc.New()
	for _, x := range []struct {
		what        string
		ahead       func(s *undo.Stack)
		undos, more int // how many steps there are ahead of the second note, and behind it
	}{
		{"nothing", func(s *undo.Stack) {}, 1, 1},
		{"Steps", func(s *undo.Stack) { s.Steps() }, 1, 1},
		{"Invert", func(s *undo.Stack) { undo.Invert(tells, a) }, 1, 1},
		{"Close", func(s *undo.Stack) { s.Close() }, 1, 2},
		{"Close twice", func(s *undo.Stack) { s.Close(); s.Close() }, 1, 2},
		{"a Redo that has none", func(s *undo.Stack) { s.Redo(tells) }, 1, 2},
		{"an Undo that tells", func(s *undo.Stack) { s.Undo(tells) }, 0, 1},
		{"an Undo that tells nothing", func(s *undo.Stack) { s.Undo(silent) }, 0, 1},
		{"an Undo and a Redo", func(s *undo.Stack) { apply(t, tells, undone(s, tells)); apply(t, tells, again(s, tells)) }, 1, 2},
		{"an Undo, and a Redo that tells nothing", func(s *undo.Stack) { s.Undo(tells); s.Redo(tells) }, 0, 1},
	} {
		s := undo.New(forever)
		note(t, s, a, 5)
		x.ahead(s)
		if n, _ := s.Steps(); n != x.undos {
			t.Fatalf("%s: %d steps, not %d", x.what, n, x.undos)
		}
		note(t, s, b, 5)
		checkSteps(t, x.what, s, x.more, 0)
	}
}

func undone(s *undo.Stack, d *doc.Doc) api.Update {
	u, _ := s.Undo(d)
	return u
}

func again(s *undo.Stack, d *doc.Doc) api.Update {
	u, _ := s.Redo(d)
	return u
}

func TestP18_1StepsAheadAreClosed(t *testing.T) {
	d := of(t, up(at(1, 1, "abcd")))
	for _, by := range []string{"a later step", "a later step that was undone"} {
		s := undo.New(5)
		note(t, s, up(at(1, 1, "a")), 10)
		note(t, s, up(at(1, 2, "b")), 20) // another one, though the first one's ticks come once more
		if by == "a later step that was undone" {
			u, some := s.Undo(d)
			checkSteps(t, by, s, 1, 1)
			if !some || len(u.Turns) != 1 {
				t.Errorf("%s: %v", by, u)
			}
			note(t, s, up(at(1, 3, "c")), 10)
			checkSteps(t, by, s, 2, 0)
			continue
		}
		note(t, s, up(at(1, 3, "c")), 10)
		checkSteps(t, by, s, 3, 0)
		note(t, s, up(at(1, 4, "d")), 20)
		checkSteps(t, by, s, 4, 0)
	}
}

func TestP18_1JoinedIsUndoneAtOnce(t *testing.T) {
	d := of(t, up(at(1, 1, "abcdef")), turning(turn(1, 5, 7, 3)))
	s := undo.New(5)
	note(t, s, up(at(1, 4, "d")), 3)
	note(t, s, up(at(1, 1, "abcd")), 10)                      // overlaps what the next ones tell, and is told ahead of them
	note(t, s, up(at(1, 1, "ab")), 10)                        // the lesser one of an id
	note(t, s, both(up(at(1, 2, "b")), turn(1, 5, 6, 2)), 11) // the greatest turn counts
	note(t, s, both(wrong(), turn(1, 5, 6, 3)), 12)
	note(t, s, turning(turn(1, 1, 3, 1)), 14) // of what it made
	checkSteps(t, "joined", s, 2, 0)
	does(t, "the second step", d, s.Undo, turn(1, 1, 5, 1), turn(1, 5, 6, 4))
	does(t, "the first step", d, s.Undo)
	checkSteps(t, "undone", s, 0, 1)
	does(t, "the second step again", d, s.Redo, turn(1, 1, 5, 2), turn(1, 5, 6, 5))
}

// TestP18_1OverlapsWithinANote: of what is noted each id counts, whatever stands first.
func TestP18_1OverlapsWithinANote(t *testing.T) {
	d := of(t, up(at(1, 1, "abcdef")))
	s := undo.New(1)
	note(t, s, up(at(1, 1, "a"), at(1, 1, "abc"), at(1, 3, "cde")), 3)
	does(t, "undo", d, s.Undo, turn(1, 1, 6, 1))
}

func TestP18_1NoteLeavesNothingToRedo(t *testing.T) {
	d := of(t, up(at(1, 1, "abc")))
	s := undo.New(forever)
	for n := range uint64(3) {
		note(t, s, up(at(1, n+1, "x")), n)
		s.Close()
	}
	does(t, "undo", d, s.Undo, turn(1, 3, 4, 1))
	does(t, "undo", d, s.Undo, turn(1, 2, 3, 1))
	checkSteps(t, "undone", s, 1, 2)
	does(t, "redo", d, s.Redo, turn(1, 2, 3, 2))
	checkSteps(t, "done again", s, 2, 1)
	note(t, s, turning(turn(1, 1, 2, 1)), 0)
	checkSteps(t, "noted", s, 3, 0)
	does(t, "none to redo", d, s.Redo)
	checkSteps(t, "none to redo", s, 3, 0)
}

func TestP18_3Steps(t *testing.T) {
	d := of(t, up(at(1, 1, "abcd")))
	s := undo.New(1)
	for n := range uint64(4) {
		note(t, s, up(at(1, n+1, "x")), n)
	}
	for n := uint64(4); n > 0; n-- {
		does(t, "undo", d, s.Undo, turn(1, n, n+1, 1))
		checkSteps(t, "undone", s, int(n-1), int(5-n))
	}
	does(t, "none is left to undo", d, s.Undo)
	checkSteps(t, "none is left to undo", s, 0, 4)
	for n := range uint64(4) {
		does(t, "redo", d, s.Redo, turn(1, n+1, n+2, 2))
		checkSteps(t, "done again", s, int(n+1), int(3-n))
	}
	does(t, "none is left to redo", d, s.Redo)
	checkSteps(t, "none is left to redo", s, 4, 0)
	does(t, "undone once more", d, s.Undo, turn(1, 4, 5, 3))
}

// TestP18_3OverSteps: steps that tell nothing are passed over, and are steps no more.
func TestP18_3OverSteps(t *testing.T) {
	d := of(t, up(at(1, 1, "abcd")))
	s := undo.New(1)
	for i, u := range []api.Update{up(at(1, 1, "a")), up(at(9, 1, "unknown")), up(at(1, 2, "b")), turning(turn(1, 4, 5, 1)), up(at(1, 3, "c")), turning(turn(1, 1, 5, top-1), turn(2, 1, 2, 1)), turning(turn(9, 1, top+1, 1))} {
		note(t, s, u, uint64(i))
	}
	does(t, "over one of unknown ids", d, s.Undo, turn(1, 1, 5, 1)) // to one that showed all
	checkSteps(t, "over one", s, 5, 1)
	apply(t, d, turning(turn(1, 1, 4, 2)))
	does(t, "the next one", d, s.Undo, turn(1, 3, 4, 3))
	checkSteps(t, "the next one", s, 4, 2)
	apply(t, d, turning(turn(1, 2, 3, 3), turn(1, 4, 5, 2))) // others delete what a step made, and bring back what one deleted
	does(t, "over three", d, s.Undo, turn(1, 1, 2, 3))
	checkSteps(t, "over three", s, 0, 3)
	apply(t, d, turning(turn(1, 1, 2, top-1), turn(1, 3, 4, 4))) // others show both again
	does(t, "over two, to the first one told", d, s.Redo, turn(1, 2, 3, 4))
	checkSteps(t, "over two, to the first one told", s, 1, 0)
	apply(t, d, turning(turn(1, 2, 3, 5)))
	does(t, "over all", d, s.Undo)
	checkSteps(t, "over all", s, 0, 0)
}

// TestP18_3OverOneThatCannotBe: a step of which one turn would be above MaxId tells nothing.
func TestP18_3OverOneThatCannotBe(t *testing.T) {
	d := of(t, up(at(1, 1, "abc")))
	s := undo.New(1)
	note(t, s, up(at(1, 1, "a")), 0)
	note(t, s, turning(turn(1, 2, 4, 1)), 1)
	apply(t, d, turning(turn(1, 2, 3, 1), turn(1, 3, 4, top)))
	does(t, "undo", d, s.Undo, turn(1, 1, 2, 1))
	checkSteps(t, "undo", s, 0, 1)
	apply(t, d, turning(turn(1, 1, 2, top)))
	does(t, "redo", d, s.Redo)
	checkSteps(t, "redo", s, 0, 0)
}

func TestP18_3OverAllToRedo(t *testing.T) {
	d := of(t, up(at(1, 1, "ab")))
	s := undo.New(1)
	note(t, s, up(at(1, 1, "a")), 0)
	note(t, s, up(at(1, 2, "b")), 1)
	does(t, "undo", d, s.Undo, turn(1, 2, 3, 1))
	does(t, "undo", d, s.Undo, turn(1, 1, 2, 1))
	apply(t, d, turning(turn(1, 1, 3, 2)))
	does(t, "nothing to do again", d, s.Redo)
	checkSteps(t, "nothing to do again", s, 0, 0)
}

// TestP18_3WhatIsNotTold: a step that d doesn't know is undone by no later Undo.
func TestP18_3WhatIsNotTold(t *testing.T) {
	d, s := doc.New(), undo.New(1)
	note(t, s, up(at(1, 1, "a")), 0)
	does(t, "not known yet", d, s.Undo)
	apply(t, d, up(at(1, 1, "a")))
	does(t, "known, and no step", d, s.Undo)
	checkSteps(t, "known, and no step", s, 0, 0)
}

func TestP18_3RedoneIsClosed(t *testing.T) {
	d := of(t, up(at(1, 1, "ab")))
	s := undo.New(forever)
	note(t, s, up(at(1, 1, "a")), 0)
	does(t, "undo", d, s.Undo, turn(1, 1, 2, 1))
	does(t, "redo", d, s.Redo, turn(1, 1, 2, 2))
	note(t, s, up(at(1, 2, "b")), 0)
	checkSteps(t, "noted behind", s, 2, 0)
	does(t, "undo", d, s.Undo, turn(1, 2, 3, 1))
	does(t, "undo", d, s.Undo, turn(1, 1, 2, 3))
}

// TestP18_3StacksAreApart: what one stack is told another one doesn't know.
func TestP18_3StacksAreApart(t *testing.T) {
	d := of(t, up(at(1, 1, "ab")))
	a, b := undo.New(5), undo.New(5)
	note(t, a, up(at(1, 1, "a")), 0)
	note(t, b, up(at(1, 2, "b")), 0)
	a.Close()
	note(t, b, turning(turn(1, 2, 3, 1)), 4)
	checkSteps(t, "a", a, 1, 0)
	checkSteps(t, "b", b, 1, 0)
	does(t, "b", d, b.Undo, turn(1, 2, 3, 1))
	does(t, "b", d, b.Undo)
	checkSteps(t, "a", a, 1, 0)
	does(t, "a", d, a.Undo, turn(1, 1, 2, 1))
}
