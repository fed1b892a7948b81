package seq_test

import (
	"math/rand"
	"slices"
	"testing"

	"quire/api"
	"quire/seq"
)

// TestP9_4EachOrderOfFew: four units with all origins that they can have and ids in each order, in each order in which they can come.
func TestP9_4EachOrderOfFew(t *testing.T) {
	names := []api.Id{id(1, 2), id(2, 1), id(2, 2), id(3, 1)}
	permute(names, func(names []api.Id) {
		var with func(l []api.Unit)
		with = func(l []api.Unit) {
			if len(l) == len(names) {
				checkEachOrder(t, l)
				return
			}
			origins := append([]api.Id{none}, names[:len(l)]...)
			for _, left := range origins {
				for _, right := range origins {
					u := api.Unit{Id: names[len(l)], Left: left, Right: right}
					if left == none || left != right {
						with(append(slices.Clone(l), u))
					}
				}
			}
		}
		with(nil)
	})
}

// checkEachOrder: whether l, if its units can come at all, stand in the model's order in whichever order they come, none ever changing places with another.
func checkEachOrder(t *testing.T, l []api.Unit) {
	t.Helper()
	m := newModel()
	for _, u := range l {
		if !m.insert(u) {
			return
		}
	}
	want := idsOf(m.order)
	permute(slices.Clone(l), func(l []api.Unit) {
		if !comesAhead(l) {
			return
		}
		s := seq.New()
		for _, u := range l {
			was := orderOf(s)
			if !s.Insert(u) {
				t.Fatalf("%v is refused, of %v", u, l)
			}
			if got := slices.DeleteFunc(orderOf(s), func(x api.Id) bool { return x == u.Id }); !slices.Equal(got, was) {
				t.Fatalf("%v turns about %v: %v", u, was, got)
			}
		}
		if got := orderOf(s); !slices.Equal(got, want) {
			t.Fatalf("%v: %v, not %v", l, got, want)
		}
	})
}

// comesAhead: whether each one's origins come ahead of it.
func comesAhead(l []api.Unit) bool {
	there := []api.Id{none}
	for _, u := range l {
		if !slices.Contains(there, u.Left) || !slices.Contains(there, u.Right) {
			return false
		}
		there = append(there, u.Id)
	}
	return true
}

// shuffled: l in another order in which each one's origins come ahead of it: each time one of those that can come is drawn.
func shuffled(r *rand.Rand, l []api.Unit) []api.Unit {
	waits := map[api.Id]int{}
	after := map[api.Id][]api.Unit{}
	var ready []api.Unit
	for _, u := range l {
		for _, x := range []api.Id{u.Left, u.Right} {
			if x != none {
				waits[u.Id]++
				after[x] = append(after[x], u)
			}
		}
		if waits[u.Id] == 0 {
			ready = append(ready, u)
		}
	}
	var out []api.Unit
	for len(ready) > 0 {
		i := r.Intn(len(ready))
		u := ready[i]
		ready[i] = ready[len(ready)-1]
		ready = ready[:len(ready)-1]
		out = append(out, u)
		for _, v := range after[u.Id] {
			if waits[v.Id]--; waits[v.Id] == 0 {
				ready = append(ready, v)
			}
		}
	}
	return out
}

// TestP9_4AnyOrder: units whose origins are any that they can have.
func TestP9_4AnyOrder(t *testing.T) {
	for round := range 200 {
		r := rand.New(rand.NewSource(int64(round)))
		s, m := seq.New(), newModel()
		var came []api.Unit
		for range 10 + r.Intn(60) {
			u := draw(r, m, 1+round%4)
			was := orderOf(s)
			if !m.insert(u) {
				continue
			}
			s.Insert(u)
			came = append(came, u)
			if got := slices.DeleteFunc(orderOf(s), func(x api.Id) bool { return x == u.Id }); !slices.Equal(got, was) {
				t.Fatalf("round %d: %v turns about %v: %v", round, u, was, got)
			}
		}
		for range 5 {
			checkSeq(t, "told anew", of(t, shuffled(r, came)...), m.order)
		}
	}
}

// TestP9_4Neighbours: at each place of what several writers told, a unit between its neighbours stands there.
func TestP9_4Neighbours(t *testing.T) {
	for round := range 40 {
		r := rand.New(rand.NewSource(int64(round)))
		s, m := seq.New(), newModel()
		for range 50 {
			u, n := draw(r, m, 3), 1+r.Intn(3)
			if m.run(u, n) != s.Run(u, n) {
				t.Fatal("not as the model")
			}
		}
		for at := range s.Len() + 1 {
			left, _ := s.At(at - 1)
			right, _ := s.At(at)
			o := s.Copy()
			if n := 1 + r.Intn(3); !o.Run(api.Unit{Id: id(9, 1), Left: left.Id, Right: right.Id}, n) || o.Find(id(9, 1)) != at || o.Find(id(9, uint64(n))) != at+n-1 || o.Len() != s.Len()+n {
				t.Fatalf("round %d: %d units at %d: %d of %v", round, n, at, o.Find(id(9, 1)), orderOf(o))
			}
		}
	}
}

// TestP9_4LongTexts: some thousand units, each between its neighbours when it comes: here and there, at the end, at the beginning, one behind the other at a place, one ahead of the other.
func TestP9_4LongTexts(t *testing.T) {
	const long = 12000
	for what, place := range map[string]func(r *rand.Rand, n, last int) int{
		"here and there":   func(r *rand.Rand, n, last int) int { return r.Intn(n + 1) },
		"at the end":       func(r *rand.Rand, n, last int) int { return n },
		"at the beginning": func(r *rand.Rand, n, last int) int { return 0 },
		"one behind the other": func(r *rand.Rand, n, last int) int {
			if r.Intn(30) == 0 {
				return r.Intn(n + 1)
			}
			return min(last+1, n)
		},
		"one ahead of the other": func(r *rand.Rand, n, last int) int {
			if r.Intn(30) == 0 {
				return r.Intn(n + 1)
			}
			return last
		},
	} {
		r := rand.New(rand.NewSource(7))
		s := seq.New()
		var want, came []api.Unit
		last := 0
		for n := range long {
			at := place(r, n, last)
			u := api.Unit{Id: id(uint64(1+n/(n%7+1)%3), uint64(n+1))}
			if at > 0 {
				u.Left = want[at-1].Id
			}
			if at < n {
				u.Right = want[at].Id
			}
			if !s.Insert(u) || s.Find(u.Id) != at {
				t.Fatalf("%s: %v at %d, not %d", what, u, s.Find(u.Id), at)
			}
			want, came, last = slices.Insert(want, at, u), append(came, u), at
		}
		checkSeq(t, what, s, want)
		checkSeq(t, what+", told anew", of(t, shuffled(r, came)...), want)
	}
}

// TestP9_4Writers: writers that hear of each other late; told in other orders all have the same, what one saw in the order in which it saw it.
func TestP9_4Writers(t *testing.T) {
	for round := range 60 {
		r := rand.New(rand.NewSource(int64(round)))
		writers := []*seq.Seq{seq.New(), seq.New(), seq.New()}
		heard := make([]int, len(writers)) // how many of all that came each one was told
		clock := uint64(0)
		var came []api.Unit
		hear := func(w, n int) {
			for ; n > 0 && heard[w] < len(came); n-- {
				writers[w].Insert(came[heard[w]]) // its own ones are there already
				heard[w]++
			}
		}
		for range 80 {
			w := r.Intn(len(writers))
			hear(w, r.Intn(5))
			s := writers[w]
			at := r.Intn(s.Len() + 1)
			left, _ := s.At(at - 1)
			right, _ := s.At(at)
			u, n := api.Unit{Id: id(uint64(1+w), clock+1), Left: left.Id, Right: right.Id}, 1+r.Intn(4)
			if clock += uint64(n); !s.Run(u, n) {
				t.Fatalf("round %d: %v is refused", round, u)
			}
			for k := range n {
				came = append(came, nth(u, k))
			}
		}
		all := orderOf(of(t, shuffled(r, came)...))
		for w, s := range writers {
			seen := orderOf(s)
			rest := slices.DeleteFunc(slices.Clone(all), func(x api.Id) bool { return s.Find(x) < 0 })
			if !slices.Equal(rest, seen) {
				t.Fatalf("round %d: writer %d saw %v: %v", round, w, seen, rest)
			}
			hear(w, len(came))
			if got := orderOf(s); !slices.Equal(got, all) {
				t.Fatalf("round %d: writer %d has %v, not %v", round, w, got, all)
			}
		}
	}
}
