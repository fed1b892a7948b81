package undo_test

import (
	"slices"
	"testing"

	"quire/api"
	"quire/doc"
	"quire/undo"
	"quire/view"
)

// modelStack: the steps as the chapter's words have them, none of them merged.
type modelStack struct {
	window     uint64
	undo, redo []modelStep
	open       bool
}

type modelStep struct {
	l    []api.Update
	tick uint64
}

func (m *modelStack) note(u api.Update, tick uint64) {
	if n := len(m.undo); m.open && tick >= m.undo[n-1].tick && tick-m.undo[n-1].tick < m.window {
		m.undo[n-1].l = append(m.undo[n-1].l, copyOf(u))
	} else {
		m.undo, m.open = append(m.undo, modelStep{[]api.Update{copyOf(u)}, tick}), true
	}
	m.redo = nil
}

func (m *modelStack) turn(d *doc.Doc, from, to *[]modelStep) (api.Update, bool) {
	m.open = false
	for len(*from) > 0 {
		last := (*from)[len(*from)-1]
		*from = (*from)[:len(*from)-1]
		if u, some := inverts(d, last.l...); some {
			*to = append(*to, modelStep{l: []api.Update{u}})
			return u, true
		}
	}
	return api.Update{}, false
}

// checkStack holds a stack to the model, over documents that hear of one another late, and are told, or not, what it tells.
func checkStack(t *testing.T, next func(int) int) {
	t.Helper()
	docs := []*doc.Doc{doc.New(), doc.New(), doc.New()}
	window := []uint64{0, 1, 2, 5, forever}[next(5)]
	s, m := undo.New(window), &modelStack{window: max(window, 1)}
	tick := uint64(next(9))
	for range 4 + next(20) {
		d := docs[next(len(docs))]
		var got, want api.Update
		var some, too bool
		switch next(8) {
		case 0:
			s.Close()
			m.open = false
		case 1:
			got, some = told(t, d, s.Undo)
			want, too = m.turn(d, &m.undo, &m.redo)
		case 2:
			got, some = told(t, d, s.Redo)
			want, too = m.turn(d, &m.redo, &m.undo)
		case 3:
			hears(t, d, docs[next(len(docs))])
		case 4:
			write(t, next, d, uint64(1+next(3)))
		case 5:
			note(t, s, emptyOnes()[next(5)], tick)
		default:
			tick += uint64(next(4)) - uint64(next(2))
			client := 1 + next(3)
			if u, made := write(t, next, docs[client-1], uint64(client)); made {
				note(t, s, u, tick)
				m.note(u, tick)
			}
		}
		if !exact(got, want) || some != too {
			t.Fatalf("%v, %t, not %v, %t", got, some, want, too)
		}
		if next(4) > 0 {
			apply(t, d, got)
		}
		checkSteps(t, "drawn", s, len(m.undo), len(m.redo))
	}
}

func TestP18_3Drawn(t *testing.T) {
	for seed := range int64(1500) {
		checkStack(t, drawn(seed))
	}
}

func FuzzP18_3Stack(f *testing.F) {
	f.Add([]byte{3, 1, 2, 6, 4, 5, 6, 7, 8, 9, 8, 7, 6, 5, 4, 3, 2, 1})
	f.Fuzz(func(t *testing.T, b []byte) { checkStack(t, given(b)) })
}

// look: what is seen of a document.
func look(d *doc.Doc) string { return view.Text(d.View()) }

// TestP18_4EachKind: what one writer did alone, of each kind.
func TestP18_4EachKind(t *testing.T) {
	for _, x := range []struct {
		what  string
		edits []api.Edit
	}{
		{"texts", []api.Edit{inserts(0, "abc"), inserts(1, "xy"), inserts(5, "z")}},
		{"embeds", []api.Edit{embeds(0, 1), inserts(1, "ab"), embeds(1, 2), embeds(4, 3)}},
		{"deletions", []api.Edit{inserts(0, "abcdef"), deletes(1, 2), deletes(0, 1), inserts(1, "x"), deletes(0, 4)}},
		{"marks", []api.Edit{inserts(0, "abcdef"), bolds(1, 4, "k", integer(1)), bolds(2, 2, "k", integer(2)), bolds(0, 6, "l", integer(3)), bolds(3, 1, "k", null)}},
		{"text within a mark", []api.Edit{inserts(0, "abc"), bolds(0, 3, "k", integer(1)), inserts(1, "x"), deletes(0, 2), bolds(0, 2, "k", null)}},
		{"map entries", []api.Edit{sets("k", integer(1)), sets("k", integer(2)), sets("l", integer(3)), sets("k", null), sets("k", integer(4))}},
		{"maps within maps", []api.Edit{sets("m", aMap), sets("k", integer(1), "m"), sets("n", aMap, "m"), sets("k", integer(2), "m", "n"), sets("n", null, "m"), sets("m", integer(5))}},
	} {
		d := of(t, up(at(2, 1, "pq")), up(set(id(2, 3), 1, none, "k", integer(9)), mark(id(2, 4), 2, begin, end, "k", integer(9))))
		s := undo.New(1)
		looks := []string{look(d)}
		for i, e := range x.edits {
			note(t, s, makes(t, d, 1, e), uint64(i))
			looks = append(looks, look(d))
		}
		for round := range 2 {
			for i := len(x.edits) - 1; i >= 0; i-- {
				u, _ := told(t, d, s.Undo)
				apply(t, d, u)
				if got := look(d); got != looks[i] {
					t.Errorf("%s: %d: undone to %d: %q, not %q", x.what, round, i, got, looks[i])
				}
			}
			for i := range x.edits {
				u, _ := told(t, d, s.Redo)
				apply(t, d, u)
				if got := look(d); got != looks[i+1] {
					t.Errorf("%s: %d: done again to %d: %q, not %q", x.what, round, i+1, got, looks[i+1])
				}
			}
		}
	}
}

// TestP18_4Alone: steps of several edits each, behind what others wrote; undone and done again to and fro. A step that is passed over has changed nothing that is seen.
func TestP18_4Alone(t *testing.T) {
	for seed := range int64(300) {
		next := drawn(seed)
		d, s := doc.New(), undo.New(3)
		for range next(6) {
			write(t, next, d, uint64(2+next(2)))
		}
		var undos, redos []string // what is seen ahead of each step, and behind it
		for range 25 {
			now := look(d)
			switch next(3) {
			case 0:
				if n := len(redos); turned(t, d, s.Redo) {
					undos, redos = append(undos, now), checkBack(t, seed, redos, n-1, look(d))
				} else if n > 0 {
					t.Fatalf("seed %d: nothing was done again", seed)
				}
			case 1:
				if writeStep(t, next, d, s) {
					undos, redos = append(undos, now), nil
				}
			case 2:
				some := turned(t, d, s.Undo)
				left, _ := s.Steps()
				over := undos
				if some {
					over = undos[left+1:]
				}
				for _, passed := range over {
					if passed != now {
						t.Fatalf("seed %d: %q was passed over at %q", seed, passed, now)
					}
				}
				if some {
					undos, redos = checkBack(t, seed, undos, left, look(d)), append(redos, now)
				} else if undos = undos[:0]; look(d) != now {
					t.Fatalf("seed %d: %q, not %q", seed, look(d), now)
				}
			}
			checkSteps(t, "to and fro", s, len(undos), len(redos))
		}
	}
}

// turned applies what is told, and answers whether that is anything.
func turned(t *testing.T, d *doc.Doc, f func(*doc.Doc) (api.Update, bool)) bool {
	t.Helper()
	u, some := told(t, d, f)
	apply(t, d, u)
	return some
}

// writeStep makes a few edits that are one step, and answers whether any could be made.
func writeStep(t *testing.T, next func(int) int, d *doc.Doc, s *undo.Stack) bool {
	t.Helper()
	made := false
	for k := range 1 + next(3) {
		if u, some := write(t, next, d, 1); some {
			note(t, s, u, uint64(k))
			made = true
		}
	}
	s.Close()
	return made
}

// checkBack: what is seen must be what was seen at that place of l, which ends ahead of it then.
func checkBack(t *testing.T, seed int64, l []string, place int, got string) []string {
	t.Helper()
	if got != l[place] {
		t.Fatalf("seed %d: %q, not %q", seed, got, l[place])
	}
	return l[:place]
}

// seen: whether each unit that d knows is seen, in the order of the sequence.
func seen(d *doc.Doc) (order []api.Id, units map[api.Id]bool) {
	units = map[api.Id]bool{}
	for _, u := range d.Seq().All() {
		order = append(order, u.Id)
		units[u.Id] = slices.Contains(d.Units(), u.Id)
	}
	return order, units
}

// TestP18_5Others: whatever others did, what a step made is gone, what it deleted is there, and nothing else has changed.
func TestP18_5Others(t *testing.T) {
	for seed := range int64(400) {
		next := drawn(seed)
		own, others := doc.New(), doc.New()
		s := undo.New(1)
		var steps []api.Update
		for tick := range uint64(12) {
			if u, some := write(t, next, own, 1); some {
				note(t, s, u, tick)
				steps = append(steps, u)
			}
			write(t, next, others, 2)
			if next(2) == 1 {
				hears(t, own, others)
			}
			if next(2) == 1 {
				hears(t, others, own)
			}
		}
		if next(4) > 0 {
			hears(t, own, others)
		}
		for len(steps) > 0 {
			was, before := seen(own)
			u, some := told(t, own, s.Undo)
			left, _ := s.Steps()
			apply(t, own, u)
			order, after := seen(own)
			if !slices.Equal(order, was) {
				t.Fatalf("seed %d: %v, not %v", seed, order, was)
			}
			for _, x := range order { // the steps that were passed over say nothing, nor if they are asked all at once
				want := before[x]
				for _, step := range steps[left:] {
					if has(step.Ops, x) {
						want = false
					} else if turnOf(step.Turns, x)%2 == 1 && !madeAmong(steps[left:], x) {
						want = true
					}
				}
				if after[x] != want {
					t.Fatalf("seed %d: %v: seen %t, not %t", seed, x, after[x], want)
				}
			}
			if steps = steps[:left]; !some && left > 0 {
				t.Fatalf("seed %d: %d steps are left", seed, left)
			}
		}
	}
}

func madeAmong(l []api.Update, x api.Id) bool {
	return slices.ContainsFunc(l, func(u api.Update) bool { return has(u.Ops, x) })
}

// TestP18_5Between: others write between what a step made, delete some of it, and of what it deleted.
func TestP18_5Between(t *testing.T) {
	d, s := of(t, up(at(2, 1, "abcd"))), undo.New(1)
	note(t, s, makes(t, d, 1, deletes(1, 2)), 0)     // a d
	note(t, s, makes(t, d, 1, inserts(1, "123")), 1) // a123d
	note(t, s, makes(t, d, 1, embeds(4, 5)), 2)      // behind 3
	makes(t, d, 3, inserts(2, "x"))                  // a1x23*d
	makes(t, d, 3, deletes(3, 1))                    // a1x3*d
	apply(t, d, turning(turn(2, 3, 4, 3)))           // another one has c deleted, too
	apply(t, d, turning(turn(2, 2, 3, 2)))           // and b was shown again
	checkLook(t, "between", d, "a1x3\uFFFCbd")
	does(t, "the embed", d, s.Undo, turn(1, 4, 5, 1))
	checkLook(t, "the embed", d, "a1x3bd")
	does(t, "the text", d, s.Undo, turn(1, 1, 2, 1), turn(1, 3, 4, 1))
	checkLook(t, "the text", d, "axbd")
	does(t, "the deletion", d, s.Undo, turn(2, 3, 4, 4))
	checkLook(t, "the deletion", d, "axbcd")
	does(t, "redo", d, s.Redo, turn(2, 3, 4, 5))
	does(t, "redo", d, s.Redo, turn(1, 1, 2, 2), turn(1, 3, 4, 2))
	does(t, "redo", d, s.Redo, turn(1, 4, 5, 2))
	checkLook(t, "all again", d, "a1x3\uFFFCbd")
}

// TestP18_5MarksAndEntries: others' marks and entries stay, whatever lay over them, or under them.
func TestP18_5MarksAndEntries(t *testing.T) {
	d, s := of(t, up(at(2, 1, "abc")), up(set(id(2, 4), 1, none, "k", integer(1)))), undo.New(1)
	note(t, s, makes(t, d, 1, bolds(0, 3, "b", integer(1))), 0)
	note(t, s, makes(t, d, 1, sets("k", integer(2))), 1)
	note(t, s, makes(t, d, 1, sets("l", integer(3))), 2)
	makes(t, d, 3, bolds(1, 1, "b", integer(4)))
	makes(t, d, 3, sets("l", integer(5)))
	want := of(t, up(at(2, 1, "abc")), up(set(id(2, 4), 1, none, "k", integer(1))))
	makes(t, want, 3, bolds(1, 1, "b", integer(4)))
	makes(t, want, 3, sets("l", integer(5)))
	done := look(d)
	for range 3 {
		u, _ := told(t, d, s.Undo)
		apply(t, d, u)
	}
	if got := look(d); got != look(want) {
		t.Errorf("undone: %q, not %q", got, look(want))
	}
	for range 3 {
		u, _ := told(t, d, s.Redo)
		apply(t, d, u)
	}
	if got := look(d); got != done {
		t.Errorf("done again: %q, not %q", got, done)
	}
}
