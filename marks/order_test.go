package marks_test

import (
	"math/rand"
	"slices"
	"testing"

	"quire/api"
	"quire/marks"
	"quire/seq"
)

// permute gives l in each order.
func permute(l []api.Op, do func(l []api.Op)) {
	l = slices.Clone(l)
	var from func(i int)
	from = func(i int) {
		if i == len(l) {
			do(l)
			return
		}
		for k := i; k < len(l); k++ {
			l[i], l[k] = l[k], l[i]
			from(i + 1)
			l[i], l[k] = l[k], l[i]
		}
	}
	from(0)
}

// checkEachOrder: whether each order of l tells these marks.
func checkEachOrder(t *testing.T, what string, s *seq.Seq, l []api.Op, want ...[]api.Mark) {
	t.Helper()
	permute(l, func(l []api.Op) {
		if all := marks.All(s, l); !slices.EqualFunc(all, want, exactMarks) {
			t.Fatalf("%s: %v: All: %v, not %v", what, l, all, want)
		}
		for i := range want {
			if got := marks.At(s, l, i); !exactMarks(got, want[i]) {
				t.Fatalf("%s: %v: At %d: %v, not %v", what, l, i, got, want[i])
			}
		}
	})
}

func TestP11_4EachOrderOfFew(t *testing.T) {
	s := row(t, a, b, c)
	n := func(n int64) api.Value { return integer(n) }
	checkEachOrder(t, "several stamps", s, list(
		mark(id(4, 1), 1, start, end, "k", n(1)),
		mark(id(3, 1), 2, start, behind(b), "k", n(2)),
		mark(id(2, 1), 3, ahead(b), end, "k", null),
		mark(id(1, 1), 4, ahead(c), end, "k", n(4)),
		mark(id(5, 1), 5, ahead(a), ahead(a), "k", n(5)),
	), shows("k", n(2)), nil, shows("k", n(4)))
	checkEachOrder(t, "one stamp, several clients", s, list(
		mark(id(1, 9), 7, start, end, "k", n(1)),
		mark(id(2, 8), 7, start, behind(b), "k", n(2)),
		mark(id(3, 7), 7, start, behind(a), "k", null),
		mark(id(top, 1), 7, ahead(c), end, "k", n(4)),
	), nil, shows("k", n(2)), shows("k", n(4)))
	checkEachOrder(t, "one stamp, one client", s, list(
		mark(id(1, 1), 7, start, end, "k", n(1)),
		mark(id(1, 2), 7, start, behind(b), "k", n(2)),
		mark(id(1, 3), 7, start, behind(a), "k", n(3)),
	), shows("k", n(3)), shows("k", n(2)), shows("k", n(1)))
	checkEachOrder(t, "several keys", s, list(
		mark(id(1, 1), 1, start, end, "b", n(1)),
		mark(id(1, 2), 2, start, behind(b), "a", n(2)),
		mark(id(1, 3), 3, ahead(b), behind(b), "c", n(3)),
		mark(id(2, 1), 3, ahead(b), end, "b", null),
		mark(id(2, 2), 1, start, end, "a", n(5)),
		api.Op{Id: id(3, 1), Kind: api.OpText, Text: "x"},
	), shows("a", n(2), "b", n(1)), shows("a", n(2), "c", n(3)), shows("a", n(5)))
	checkEachOrder(t, "doubled", s, list(
		mark(id(1, 1), 1, start, end, "k", floatOf(theNaN)),
		mark(id(1, 1), 1, start, end, "k", floatOf(theNaN+5)), // value.Same: they are alike
		mark(id(1, 2), 1, start, behind(a), "k", null),
		mark(id(1, 2), 1, start, behind(a), "k", null),
	), nil, shows("k", floatOf(theNaN)), shows("k", floatOf(theNaN)))
}

// TestP11_4AnyOrder: many marks, some of them twice.
func TestP11_4AnyOrder(t *testing.T) {
	for round := range 150 {
		r := rand.New(rand.NewSource(int64(round)))
		s := drawSeq(r, 30)
		l := drawMarks(r, s, 60)
		l = append(l, l[:r.Intn(20)]...)
		want := marks.All(s, l)
		for range 8 {
			r.Shuffle(len(l), func(i, k int) { l[i], l[k] = l[k], l[i] })
			if got := marks.All(s, l); !slices.EqualFunc(got, want, exactMarks) {
				t.Fatalf("round %d: All: %v, not %v", round, got, want)
			}
			for place := range want {
				if got := marks.At(s, l, place); !exactMarks(got, want[place]) {
					t.Fatalf("round %d: At %d: %v, not %v", round, place, got, want[place])
				}
			}
		}
	}
}

// TestP11_4UnitsInAnyOrder: units that came in other orders stand in the same one, and so show the same.
func TestP11_4UnitsInAnyOrder(t *testing.T) {
	l := list(mark(id(9, 1), 1, ahead(b), behind(c), "k", integer(1)), mark(id(9, 2), 2, behind(a), ahead(c), "k", integer(2)))
	x, y := api.Unit{Id: b, Left: a}, api.Unit{Id: c, Left: a}
	for _, order := range [][]api.Unit{{{Id: a}, x, y}, {{Id: a}, y, x}} {
		s := seq.New()
		for _, u := range order {
			s.Insert(u)
		}
		checkPlaces(t, "a b c", s, l, nil, shows("k", integer(2)), shows("k", integer(1)))
	}
}

// TestP11_2LeavesWhatIsHandedIn: lists with the spare room behind them, and the sequence, are as they were.
func TestP11_2LeavesWhatIsHandedIn(t *testing.T) {
	r := rand.New(rand.NewSource(1))
	s := drawSeq(r, 20)
	was := slices.Collect(units(s))
	l := aside(t, drawMarks(r, s, 40), exactOp)
	for range 2 {
		marks.All(s, l)
		for place := range s.Len() {
			marks.At(s, l, place)
		}
		for _, o := range l {
			marks.Over(s, o)
			marks.Gap(s, o.From)
			marks.Less(o, l[0])
		}
	}
	if !slices.Equal(slices.Collect(units(s)), was) {
		t.Error("the sequence has changed")
	}
}

func units(s *seq.Seq) func(yield func(api.Unit) bool) {
	return func(yield func(api.Unit) bool) {
		for _, u := range s.All() {
			if !yield(u) {
				return
			}
		}
	}
}

// TestP11_2AnswersNewMemory: whatever is done to an answer, the spare room behind its lists included, the other lists of it, and what is answered later, are as they were.
func TestP11_2AnswersNewMemory(t *testing.T) {
	s := row(t, a, b, c, d)
	l := aside(t, list(
		mark(id(1, 1), 1, start, end, "a", integer(1)),
		mark(id(1, 2), 2, start, behind(c), "b", integer(2)),
		mark(id(1, 3), 3, ahead(b), end, "c", integer(3)),
	), exactOp)
	want := [][]api.Mark{
		shows("a", integer(1), "b", integer(2)),
		shows("a", integer(1), "b", integer(2), "c", integer(3)),
		shows("a", integer(1), "b", integer(2), "c", integer(3)),
		shows("a", integer(1), "c", integer(3)),
	}
	for i := range want {
		all, one := marks.All(s, l), marks.At(s, l, i)
		spoil(all[i])
		spoil(one)
		for k := range want {
			if k != i && !exactMarks(all[k], want[k]) {
				t.Errorf("the lists of %d and %d share memory", i, k)
			}
		}
		checkPlaces(t, "asked again", s, l, want...)
	}
}

// spoil overwrites a list and the spare room behind it.
func spoil(l []api.Mark) {
	l = l[:cap(l)]
	for i := range l {
		l[i] = api.Mark{Key: "spoilt", V: text("spoilt")}
	}
}
