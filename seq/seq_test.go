package seq_test

import (
	"fmt"
	"slices"
	"testing"

	"quire/api"
	"quire/seq"
)

// of: a sequence of these units, come in this order.
func of(t *testing.T, l ...api.Unit) *seq.Seq {
	t.Helper()
	s := seq.New()
	for _, u := range l {
		if !s.Insert(u) {
			t.Fatalf("%v is refused", u)
		}
	}
	return s
}

func unitsOf(s *seq.Seq) []api.Unit {
	var out []api.Unit
	for _, u := range s.All() {
		out = append(out, u)
	}
	return out
}

// Of the chapter's examples.
var (
	a, b, c = id(1, 1), id(1, 2), id(1, 3)
	abc     = []api.Unit{{Id: a}, {Id: b, Left: a}, {Id: c, Left: a, Right: b}}
)

func TestP9_1Ids(t *testing.T) {
	right, wrong := []uint64{1, 2, top - 1, top}, []uint64{0, top + 1, top + 2, 1<<64 - 1}
	for _, x := range right {
		for _, y := range right {
			s := seq.New()
			if !s.Insert(api.Unit{Id: id(x, y)}) {
				t.Errorf("%d, %d is refused", x, y)
			}
			checkSeq(t, "a right id", s, []api.Unit{{Id: id(x, y)}})
		}
		for _, y := range wrong {
			for _, i := range []api.Id{id(x, y), id(y, x), id(y, y)} {
				s := seq.New()
				if s.Insert(api.Unit{Id: i}) || s.Run(api.Unit{Id: i}, 1) || s.Run(api.Unit{Id: i}, 2) {
					t.Errorf("%v is taken", i)
				}
				checkSeq(t, "a wrong id", s, nil)
			}
		}
	}
}

func TestP9_1Refused(t *testing.T) {
	s := of(t, abc...)
	was := unitsOf(s)
	fresh, away := id(9, 1), id(8, 8)
	refused := map[string][]api.Unit{
		"there already":         {{Id: a}, {Id: b}, {Id: c}, {Id: a, Left: c}, {Id: b, Left: a}, {Id: c, Left: a, Right: b}, {Id: c, Left: c}},
		"no such Left":          {{Id: fresh, Left: away}, {Id: fresh, Left: away, Right: b}, {Id: fresh, Left: away, Right: away}, {Id: fresh, Left: id(1, 4)}, {Id: fresh, Left: id(2, 1)}},
		"no such Right":         {{Id: fresh, Right: away}, {Id: fresh, Left: a, Right: away}, {Id: fresh, Right: id(1, 4)}, {Id: fresh, Right: id(2, 2)}},
		"neither one nor zeros": {{Id: fresh, Left: id(0, 1)}, {Id: fresh, Left: id(1, 0)}, {Id: fresh, Right: id(0, 1)}, {Id: fresh, Right: id(1, 0)}, {Id: fresh, Left: id(1, top+1)}, {Id: fresh, Right: id(1<<64-1, 1)}},
		"its own":               {{Id: fresh, Left: fresh}, {Id: fresh, Right: fresh}, {Id: fresh, Left: fresh, Right: fresh}, {Id: fresh, Left: a, Right: fresh}, {Id: fresh, Left: fresh, Right: b}},
		"Right isn't behind":    {{Id: fresh, Left: b, Right: a}, {Id: fresh, Left: c, Right: a}, {Id: fresh, Left: b, Right: c}, {Id: fresh, Left: a, Right: a}, {Id: fresh, Left: b, Right: b}, {Id: fresh, Left: c, Right: c}},
	}
	for what, l := range refused {
		for _, u := range l {
			if s.Insert(u) || s.Run(u, 1) || s.Run(u, 3) {
				t.Errorf("%s: %v is taken", what, u)
			}
			checkSeq(t, what, s, was)
			if s.Find(fresh) != -1 {
				t.Errorf("%s: %v is there", what, u)
			}
		}
	}
}

func TestP9_1RightBehindLeft(t *testing.T) {
	s := of(t, abc...)
	order := orderOf(s) // a, c, b
	for i, left := range append([]api.Id{none}, order...) {
		for j, right := range append(slices.Clone(order), none) {
			o := s.Copy()
			u := api.Unit{Id: id(9, 1), Left: left, Right: right}
			// Of left i - 1 units are ahead, of right j.
			if got := o.Insert(u); got != (i <= j) {
				t.Fatalf("%v: %v", u, got)
			} else if got && (o.Find(u.Id) < i || o.Find(u.Id) > j || o.Len() != 4) {
				t.Errorf("%v stands at %d: %v", u, o.Find(u.Id), orderOf(o))
			}
		}
	}
}

// permute: each order of l.
func permute[T any](l []T, with func([]T)) {
	var rest func(k int)
	rest = func(k int) {
		if k == len(l) {
			with(l)
		}
		for i := k; i < len(l); i++ {
			l[k], l[i] = l[i], l[k]
			rest(k + 1)
			l[k], l[i] = l[i], l[k]
		}
	}
	rest(0)
}

func TestP9_2Examples(t *testing.T) {
	s := of(t, abc...)
	checkSeq(t, "a, b, c", s, []api.Unit{abc[0], abc[2], abc[1]})
	x, y := api.Unit{Id: id(3, 1), Left: a, Right: b}, api.Unit{Id: id(2, 1), Left: a, Right: b}
	checkSeq(t, "x, y", of(t, abc[0], abc[1], x, y), []api.Unit{abc[0], y, x, abc[1]})
	checkSeq(t, "y, x", of(t, abc[0], abc[1], y, x), []api.Unit{abc[0], y, x, abc[1]})
}

// TestP9_2Siblings: some units, others that come behind these in each order, and the order of all.
func TestP9_2Siblings(t *testing.T) {
	r1, r2, r3, p := id(1, 1), id(1, 2), id(1, 3), id(1, 4)
	row := []api.Unit{{Id: r1}, {Id: r2, Left: r1}, {Id: r3, Left: r2}}
	ahead := append(slices.Clone(row), api.Unit{Id: p, Right: r1}) // p, r1, r2, r3: p is no ancestor
	k := func(n uint64) api.Id { return id(n, 1) }
	for what, x := range map[string]struct {
		first, then []api.Unit
		want        []api.Id
	}{
		"of the root, by ids": {nil, []api.Unit{{Id: k(4)}, {Id: k(2)}, {Id: id(2, 2)}, {Id: k(3)}},
			[]api.Id{k(2), id(2, 2), k(3), k(4)}},
		"left ones of the first unit": {row, []api.Unit{{Id: k(4), Right: r1}, {Id: k(2), Right: r1}, {Id: id(2, 2), Right: r1}, {Id: k(3), Right: r1}},
			[]api.Id{k(2), id(2, 2), k(3), k(4), r1, r2, r3}},
		"left ones, whatever their Lefts": {row, []api.Unit{{Id: k(2), Left: r2, Right: r3}, {Id: k(3), Left: r1, Right: r3}, {Id: k(4), Right: r3}},
			[]api.Id{r1, r2, k(2), k(3), k(4), r3}},
		"left ones, their Lefts the other way": {row, []api.Unit{{Id: k(4), Left: r2, Right: r3}, {Id: k(3), Left: r1, Right: r3}, {Id: k(2), Right: r3}},
			[]api.Id{r1, r2, k(2), k(3), k(4), r3}},
		"right ones of one Right": {ahead, []api.Unit{{Id: k(4), Left: p, Right: r2}, {Id: k(2), Left: p, Right: r2}, {Id: id(2, 2), Left: p, Right: r2}, {Id: k(3), Left: p, Right: r2}},
			[]api.Id{p, k(2), id(2, 2), k(3), k(4), r1, r2, r3}},
		"right ones of no Right": {ahead, []api.Unit{{Id: k(4), Left: p}, {Id: k(2), Left: p}, {Id: k(3), Left: p}},
			[]api.Id{p, k(2), k(3), k(4), r1, r2, r3}},
		"right ones of several Rights": {ahead, []api.Unit{{Id: k(2), Left: p, Right: r1}, {Id: k(3), Left: p, Right: r2}, {Id: k(4), Left: p, Right: r3}, {Id: k(5), Left: p}},
			[]api.Id{p, k(5), k(4), k(3), k(2), r1, r2, r3}},
		"right ones of several Rights, two of each": {ahead, []api.Unit{{Id: k(7), Left: p, Right: r1}, {Id: k(2), Left: p, Right: r1}, {Id: k(3), Left: p, Right: r3}, {Id: k(6), Left: p, Right: r3}, {Id: k(5), Left: p}, {Id: k(4), Left: p}},
			[]api.Id{p, k(4), k(5), k(3), k(6), k(2), k(7), r1, r2, r3}},
		"children on both sides": {row, []api.Unit{{Id: k(5), Left: r1, Right: r2}, {Id: k(4), Left: r1, Right: r2}, {Id: k(3), Left: r2}, {Id: k(2), Left: r2}},
			[]api.Id{r1, k(4), k(5), r2, r3, k(2), k(3)}},
	} {
		want := slices.Clone(x.want)
		permute(slices.Clone(x.then), func(then []api.Unit) {
			s := of(t, append(slices.Clone(x.first), then...)...)
			if got := orderOf(s); !slices.Equal(got, want) {
				t.Errorf("%s, come as %v: %v, not %v", what, idsOf(then), got, want)
			}
		})
	}
}

// TestP9_2Ancestors: whether a Left is above its Right decides on whose side a unit stands.
func TestP9_2Ancestors(t *testing.T) {
	k := func(n uint64) api.Id { return id(n, 1) }
	// Each on the right of the one ahead: k(5) is above all of them.
	down := []api.Unit{{Id: k(5)}, {Id: k(6), Left: k(5)}, {Id: k(7), Left: k(6)}, {Id: k(8), Left: k(7)}}
	// Each on the left of the one that came ahead: k(8) is above all of them.
	up := []api.Unit{{Id: k(8)}, {Id: k(7), Right: k(8)}, {Id: k(6), Right: k(7)}, {Id: k(5), Right: k(6)}}
	for _, x := range []struct {
		what  string
		first []api.Unit
		u     api.Unit
		at    int
	}{
		{"its parent", down, api.Unit{Id: k(9), Left: k(7), Right: k(8)}, 3},
		{"one far above", down, api.Unit{Id: k(9), Left: k(5), Right: k(8)}, 3},
		{"one far above, of a Right amid", down, api.Unit{Id: k(9), Left: k(5), Right: k(7)}, 2},
		{"no Left", down, api.Unit{Id: k(9), Right: k(8)}, 3},
		{"one below", up, api.Unit{Id: k(9), Left: k(7), Right: k(8)}, 3},
		{"one far below", up, api.Unit{Id: k(9), Left: k(5), Right: k(8)}, 1},
		{"no Right", up, api.Unit{Id: k(9), Left: k(5)}, 1},
		{"no Right, behind the first", down, api.Unit{Id: k(9), Left: k(5)}, 4},
		{"no Right, ahead of what stood there", down, api.Unit{Id: k(4), Left: k(5)}, 1},
	} {
		s := of(t, append(slices.Clone(x.first), x.u)...)
		if got := s.Find(x.u.Id); got != x.at {
			t.Errorf("%s: at %d, not %d: %v", x.what, got, x.at, orderOf(s))
		}
	}
}

// TestP9_2AncestorsWithinRuns: as above, but that the units came as one run, and that others hang on it.
func TestP9_2AncestorsWithinRuns(t *testing.T) {
	s := seq.New()
	if !s.Run(api.Unit{Id: id(1, 1)}, 5) || !s.Run(api.Unit{Id: id(2, 1), Left: id(1, 3), Right: id(1, 4)}, 3) {
		t.Fatal("refused")
	}
	// 11 12 13 21 22 23 14 15: 21 is a left child of 14, below 11, 12 and 13.
	for _, x := range []struct {
		left, right api.Id
		at          int
	}{
		{id(1, 1), id(2, 1), 3}, {id(1, 3), id(2, 1), 3}, {id(1, 3), id(2, 3), 5}, {id(2, 1), id(2, 3), 5},
		{id(1, 3), id(1, 5), 7}, {id(1, 1), id(1, 4), 6}, {id(2, 1), id(1, 5), 4}, {id(2, 3), id(1, 4), 6}, {id(1, 4), id(1, 5), 7},
		{id(1, 5), none, 8}, {id(2, 3), none, 6}, {id(2, 1), none, 4}, {id(1, 2), none, 8}, {none, id(2, 2), 4},
	} {
		o := s.Copy()
		u := api.Unit{Id: id(3, 1), Left: x.left, Right: x.right}
		if !o.Insert(u) || o.Find(u.Id) != x.at {
			t.Errorf("%v: at %d, not %d: %v", u, o.Find(u.Id), x.at, orderOf(o))
		}
	}
}

// TestP9_2PlacesChange: Rights are held against each other where they stand now.
func TestP9_2PlacesChange(t *testing.T) {
	r1, r2, p := id(1, 1), id(1, 2), id(1, 4)
	s := of(t, api.Unit{Id: r1}, api.Unit{Id: r2, Left: r1}, api.Unit{Id: p, Right: r1})
	want := []api.Id{p, r1, r2}
	for n := range uint64(20) {
		// One ahead of all, one between both Rights, one behind all, one child of each Right.
		first, between, last := id(5, n+1), id(6, n+1), id(7, n+1)
		toOne, toTwo := id(8, n+1), id(9, n+1)
		for _, u := range []api.Unit{{Id: first, Right: want[0]}, {Id: between, Left: r1, Right: want[slices.Index(want, r1)+1]}, {Id: last, Left: want[len(want)-1]}, {Id: toOne, Left: p, Right: r1}, {Id: toTwo, Left: p, Right: r2}} {
			if !s.Insert(u) {
				t.Fatalf("%v is refused", u)
			}
		}
		want = append(slices.Insert(want, 0, first), last)
		want = slices.Insert(want, slices.Index(want, r1)+1, between)
		want = slices.Insert(want, slices.Index(want, r1), toOne)
		want = slices.Insert(want, slices.Index(want, p)+1+int(n), toTwo)
		if got := orderOf(s); !slices.Equal(got, want) {
			t.Fatalf("%d: %v, not %v", n, got, want)
		}
	}
}

func TestP9_3Run(t *testing.T) {
	s := of(t, abc...)
	u := api.Unit{Id: id(4, 7), Left: a, Right: c}
	if !s.Run(u, 3) {
		t.Fatal("refused")
	}
	checkSeq(t, "three", s, []api.Unit{abc[0], u, {Id: id(4, 8), Left: id(4, 7), Right: c}, {Id: id(4, 9), Left: id(4, 8), Right: c}, abc[2], abc[1]})
	if !s.Run(api.Unit{Id: id(4, 10), Left: b}, 1) {
		t.Fatal("refused")
	}
	if got, ok := s.At(6); !ok || got != (api.Unit{Id: id(4, 10), Left: b}) {
		t.Errorf("one: %v, %v", got, ok)
	}
}

func TestP9_3RunRefused(t *testing.T) {
	s := of(t, abc...)
	if !s.Run(api.Unit{Id: id(4, 7), Left: a, Right: c}, 3) || !s.Run(api.Unit{Id: id(5, top)}, 1) {
		t.Fatal("refused")
	}
	was := unitsOf(s)
	for _, x := range []struct {
		what string
		u    api.Unit
		n    int
	}{
		{"none", api.Unit{Id: id(9, 1)}, 0},
		{"below none", api.Unit{Id: id(9, 1)}, -1},
		{"far below none", api.Unit{Id: id(9, 1)}, -1 << 63},
		{"two from MaxId on", api.Unit{Id: id(9, top)}, 2},
		{"three from ahead of MaxId on", api.Unit{Id: id(9, top-1)}, 3},
		{"one more than MaxId", api.Unit{Id: id(9, 1)}, top + 1},
		{"as many as there are numbers", api.Unit{Id: id(9, 1)}, 1<<63 - 1},
		{"numbers that come round", api.Unit{Id: id(9, 1<<64-1)}, 3},
		{"the first one is there", api.Unit{Id: id(4, 7)}, 1},
		{"the first one is there, and others", api.Unit{Id: id(4, 7)}, 9},
		{"one amid a run is there", api.Unit{Id: id(4, 8)}, 1},
		{"the last one of a run is there", api.Unit{Id: id(4, 9)}, 2},
		{"the second one is there", api.Unit{Id: id(4, 6)}, 2},
		{"those amid are there", api.Unit{Id: id(4, 1)}, 30},
		{"the last one is there", api.Unit{Id: id(4, 1)}, 7},
		{"the last one is there, far on", api.Unit{Id: id(5, 1)}, top},
		{"one is there, far on", api.Unit{Id: id(4, 1)}, top},
		{"no such Left", api.Unit{Id: id(9, 1), Left: id(8, 8)}, 2},
		{"no such Right", api.Unit{Id: id(9, 1), Right: id(8, 8)}, 2},
		{"Right ahead of Left", api.Unit{Id: id(9, 1), Left: b, Right: a}, 2},
		{"Right is Left", api.Unit{Id: id(9, 1), Left: a, Right: a}, 2},
		{"a Left of its own", api.Unit{Id: id(9, 1), Left: id(9, 2)}, 3},
		{"a Right of its own", api.Unit{Id: id(9, 1), Right: id(9, 3)}, 3},
		{"no id", api.Unit{}, 2},
		{"no clock", api.Unit{Id: id(4, 0)}, 2},
	} {
		if s.Run(x.u, x.n) {
			t.Errorf("%s: taken", x.what)
		}
		checkSeq(t, x.what, s, was)
		for k := range uint64(4) {
			if s.Find(id(9, 1+k)) != -1 {
				t.Errorf("%s: %d is there", x.what, 1+k)
			}
		}
	}
}

func TestP9_3RunUpToItsEdges(t *testing.T) {
	s := seq.New()
	for _, x := range []struct {
		u api.Unit
		n int
	}{{api.Unit{Id: id(1, top-2)}, 3}, {api.Unit{Id: id(1, top-5)}, 3}, {api.Unit{Id: id(top, top)}, 1}, {api.Unit{Id: id(2, 4)}, 3}, {api.Unit{Id: id(2, 1)}, 3}, {api.Unit{Id: id(2, 7)}, 2}} {
		if !s.Run(x.u, x.n) {
			t.Errorf("%v %d is refused", x.u, x.n)
		}
	}
	if s.Len() != 15 {
		t.Errorf("Len %d", s.Len())
	}
	for _, u := range unitsOf(s) {
		if s.Insert(api.Unit{Id: u.Id}) {
			t.Errorf("%v is taken twice", u.Id)
		}
	}
}

// TestP9_3LongRuns: as long as the document lets a program hold.
func TestP9_3LongRuns(t *testing.T) {
	const long = 1 << 30
	s := seq.New()
	if !s.Run(api.Unit{Id: id(1, 1)}, long) || s.Len() != long {
		t.Fatal("refused")
	}
	left, right := id(1, long/2), id(1, long/2+1)
	if !s.Run(api.Unit{Id: id(2, 9), Left: left, Right: right}, 5) || s.Run(api.Unit{Id: id(2, 1)}, long) {
		t.Fatal("two")
	}
	for place, want := range map[int]api.Unit{
		0:            {Id: id(1, 1)},
		long/2 - 1:   {Id: left, Left: id(1, long/2-1)},
		long / 2:     {Id: id(2, 9), Left: left, Right: right},
		long/2 + 4:   {Id: id(2, 13), Left: id(2, 12), Right: right},
		long/2 + 5:   {Id: right, Left: left},
		long - 1 + 5: {Id: id(1, long), Left: id(1, long-1)},
	} {
		if got, ok := s.At(place); !ok || got != want || s.Find(want.Id) != place {
			t.Errorf("At %d: %v, %v; Find %v: %d", place, got, ok, want.Id, s.Find(want.Id))
		}
	}
	if _, ok := s.At(long + 5); ok || s.Find(id(1, long+1)) != -1 || s.Find(id(1, 0)) != -1 {
		t.Error("more than there is")
	}
}

func TestP9_3Find(t *testing.T) {
	s := of(t, abc...)
	s.Run(api.Unit{Id: id(3, 5), Left: b}, 4)
	for i, want := range map[api.Id]int{
		a: 0, c: 1, b: 2, id(3, 5): 3, id(3, 6): 4, id(3, 8): 6,
		none: -1, id(0, 1): -1, id(1, 0): -1, id(1, 4): -1, id(2, 1): -1, id(2, 6): -1, id(3, 4): -1, id(3, 9): -1, id(3, 1): -1, id(4, 1): -1,
		id(1, top): -1, id(1, top+1): -1, id(1<<64-1, 1<<64-1): -1, id(0, 1<<64-1): -1, id(1, 1<<64-1): -1,
	} {
		if got := s.Find(i); got != want {
			t.Errorf("%v: %d, not %d", i, got, want)
		}
	}
	if got := seq.New().Find(none); got != -1 {
		t.Errorf("zeros, of nothing: %d", got)
	}
}

func TestP9_3Empty(t *testing.T) { checkSeq(t, "empty", seq.New(), nil) }

func TestP9_3AllIsLeftAnywhereAndGoneThroughAgain(t *testing.T) {
	s := of(t, abc...)
	s.Run(api.Unit{Id: id(3, 5), Left: c, Right: b}, 3)
	want := unitsOf(s)
	all := s.All()
	for left := 1; left <= len(want)+1; left++ {
		var got []api.Unit
		for i, u := range all {
			if i != len(got) {
				t.Fatalf("place %d, not %d", i, len(got))
			}
			if got = append(got, u); len(got) == left {
				break
			}
		}
		if !slices.Equal(got, want[:min(left, len(want))]) {
			t.Errorf("left behind %d: %v", left, got)
		}
	}
	all(func(int, api.Unit) bool { return false })
	none := seq.New().All()
	for range 2 {
		for i, u := range none {
			t.Errorf("of nothing: %d, %v", i, u)
		}
	}
}

func TestP9_3AllGivesWhatIsThereWhenItIsGoneThrough(t *testing.T) {
	s := seq.New()
	all := s.All()
	for n := range uint64(5) {
		s.Insert(api.Unit{Id: id(1+n%2, 9-n)})
		got := 0
		for i, u := range all {
			if want, _ := s.At(i); i != got || u != want {
				t.Fatalf("%d: %v at %d", n, u, i)
			}
			got++
		}
		if got != int(n)+1 {
			t.Errorf("%d: %d units", n, got)
		}
	}
}

func TestP9_3Copy(t *testing.T) {
	s := of(t, abc...)
	s.Run(api.Unit{Id: id(3, 5), Left: c, Right: b}, 3)
	was := unitsOf(s)
	one, two := s.Copy(), s.Copy()
	checkSeq(t, "a copy", one, was)
	checkSeq(t, "a copy of nothing", seq.New().Copy(), nil)

	// The same ids at other places, by cuts, by growth, by new runs.
	grown := api.Unit{Id: id(3, 8), Left: id(3, 7), Right: b}
	for _, u := range []api.Unit{grown, {Id: id(4, 1), Left: id(3, 5), Right: id(3, 6)}, {Id: id(4, 2), Right: a}} {
		if !one.Insert(u) {
			t.Fatalf("%v is refused", u)
		}
	}
	checkSeq(t, "what was copied", s, was)
	checkSeq(t, "another copy", two, was)
	ahead := unitsOf(one)
	if !s.Run(api.Unit{Id: id(4, 1), Left: b}, 2) || !s.Insert(api.Unit{Id: id(3, 8), Left: b}) {
		t.Fatal("refused")
	}
	checkSeq(t, "a copy, behind changes of what was copied", one, ahead)
	checkSeq(t, "another copy, too", two, was)
	checkSeq(t, "a copy of a copy", one.Copy().Copy(), ahead)
}

// TestP9_3CopyGoesItsOwnWay: however many units it has when both begin to differ.
func TestP9_3CopyGoesItsOwnWay(t *testing.T) {
	for n := range uint64(20) {
		s := seq.New()
		for k := range n {
			s.Insert(api.Unit{Id: id(1+k%3, k+1)})
		}
		o := s.Copy()
		was := unitsOf(s)
		x, y := api.Unit{Id: id(5, 1), Right: id(1, 1)}, api.Unit{Id: id(5, 2)}
		if n == 0 {
			x.Right = none
		}
		if !s.Run(x, 2) || !o.Insert(y) {
			t.Fatal("refused")
		}
		checkSeq(t, "the first", s, append([]api.Unit{x, nth(x, 1)}, was...))
		checkSeq(t, "its copy", o, append(was, y))
	}
}

// TestP9_3RunIsInserts: whatever runs come as, and whatever comes to stand within them.
func TestP9_3RunIsInserts(t *testing.T) {
	for _, u := range []api.Unit{{Id: id(2, 1)}, {Id: id(2, 1), Right: a}, {Id: id(2, 1), Left: b}, {Id: id(2, 1), Left: a, Right: c}, {Id: id(2, 1), Left: a, Right: b}, {Id: id(1, 4), Left: c, Right: b}, {Id: id(1, 4), Left: c}} {
		for n := 1; n <= 6; n++ {
			run, single := of(t, abc...), of(t, abc...)
			if !run.Run(u, n) {
				t.Fatalf("%v %d is refused", u, n)
			}
			for k := range n {
				if !single.Insert(nth(u, k)) {
					t.Fatalf("%v %d is refused at %d", u, n, k)
				}
			}
			checkSeq(t, fmt.Sprint(u, n), run, unitsOf(single))
			for k := range n {
				amid := api.Unit{Id: id(7, uint64(1+k)), Left: nth(u, k).Id, Right: u.Right}
				if run.Insert(amid) != single.Insert(amid) {
					t.Fatalf("%v in one alone", amid)
				}
			}
			checkSeq(t, fmt.Sprint(u, n, ", with others"), run, unitsOf(single))
		}
	}
}
