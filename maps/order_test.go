package maps_test

import (
	"math/rand"
	"slices"
	"testing"

	"quire/api"
	"quire/maps"
)

// permute gives l in each order.
func permute(l []api.Op, do func(l []api.Op)) {
	l = slices.Clone(l)
	var from func(i int)
	from = func(i int) {
		if i == len(l) {
			do(l)
			return
		}
		for k := i; k < len(l); k++ {
			l[i], l[k] = l[k], l[i]
			from(i + 1)
			l[i], l[k] = l[k], l[i]
		}
	}
	from(0)
}

// parentsAhead: whether each set of l has its Parent ahead of it.
func parentsAhead(l []api.Op) bool {
	there := map[api.Id]int{root: 1}
	for _, o := range l {
		if there[o.Parent] == 0 {
			return false
		}
		there[o.Id] = 1
	}
	return true
}

// checkEachOrder: whether each order of l, each Parent ahead, and hidden told at each point of it, tells these entries.
func checkEachOrder(t *testing.T, what string, l []api.Op, hidden []api.Range, want ...api.Entry) {
	t.Helper()
	n := 0
	permute(l, func(l []api.Op) {
		if !parentsAhead(l) {
			return
		}
		n++
		at := n % (len(l) + 1)
		m := maps.New()
		for i, o := range l {
			if i == at {
				m.Hide(hidden)
			}
			if !m.Set(o) {
				t.Fatalf("%s: %v: %v is refused", what, l, o)
			}
		}
		if at == len(l) {
			m.Hide(hidden)
		}
		if got := m.View(); !exactEntries(got, want) {
			t.Fatalf("%s: %v: %v, not %v", what, l, got, want)
		}
	})
	if n == 0 {
		t.Fatalf("%s: the test's own: no order", what)
	}
}

func TestP12_3EachOrderOfFew(t *testing.T) {
	n := integer
	checkEachOrder(t, "several stamps", list(
		set(id(4, 1), 1, root, "k", n(1)), set(id(3, 1), 2, root, "k", null), set(id(2, 1), 3, root, "k", n(3)),
		set(id(1, 1), 4, root, "k", n(4)), set(id(5, 1), 2, root, "a", n(5)), set(id(6, 1), 3, root, "a", null),
	), nil, is("k", n(4)))
	checkEachOrder(t, "several stamps, some hidden", list(
		set(id(4, 1), 1, root, "k", n(1)), set(id(3, 1), 2, root, "k", n(2)), set(id(2, 1), 3, root, "k", null),
		set(id(1, 1), 4, root, "k", n(4)), set(id(5, 1), 2, root, "a", n(5)), set(id(6, 1), 3, root, "a", null),
	), only(id(1, 1), id(2, 1), id(6, 1)), is("a", n(5)), is("k", n(2)))
	checkEachOrder(t, "one stamp", list(
		set(id(1, 9), 7, root, "k", n(1)), set(id(2, 8), 7, root, "k", n(2)), set(id(top, 1), 7, root, "k", n(3)),
		set(id(1, 1), 7, root, "a", n(4)), set(id(1, 2), 7, root, "a", n(5)), set(id(1, 3), 7, root, "a", n(6)),
	), nil, is("a", n(6)), is("k", n(3)))
	outer, inner := id(1, 1), id(1, 2)
	checkEachOrder(t, "maps within maps", list(
		set(outer, 3, root, "m", aMap), set(inner, 1, outer, "m", aMap), set(id(2, 1), 2, inner, "k", n(1)),
		set(id(3, 1), 1, inner, "k", n(2)), set(id(2, 2), 1, root, "m", n(3)), set(id(3, 2), 5, outer, "z", n(4)), set(id(3, 3), 4, outer, "z", null),
	), nil, is("m", aMap, is("m", aMap, is("k", n(1))), is("z", n(4))))
	checkEachOrder(t, "maps that win over one another", list(
		set(outer, 3, root, "m", aMap), set(id(2, 1), 2, root, "m", aMap), set(id(1, 3), 1, outer, "a", n(1)),
		set(id(1, 4), 9, id(2, 1), "b", n(2)), set(id(1, 5), 1, id(2, 1), "c", aMap), set(id(1, 6), 1, id(1, 5), "d", n(3)),
	), only(outer), is("m", aMap, is("b", n(2)), is("c", aMap, is("d", n(3)))))
	checkEachOrder(t, "a map that is won over", list(
		set(outer, 1, root, "m", aMap), set(inner, 9, outer, "n", aMap), set(id(1, 3), 9, inner, "k", n(1)),
		set(id(2, 1), 2, root, "m", null), set(id(2, 2), 1, root, "k", n(2)),
	), nil, is("k", n(2)))
}

// come: maps that the sets l were told to in a drawn order, again and again, till all are taken.
func come(t *testing.T, r *rand.Rand, l []api.Op) *maps.Maps {
	t.Helper()
	m := maps.New()
	for len(l) > 0 {
		var left []api.Op
		for _, i := range r.Perm(len(l)) {
			if !m.Set(l[i]) {
				left = append(left, l[i])
			}
		}
		if len(left) == len(l) {
			t.Fatalf("the test's own: %v can't come", left)
		}
		l = left
	}
	return m
}

// TestP12_3AnyOrder: many sets; what is hidden is told ahead of them, behind them, or other ones between.
func TestP12_3AnyOrder(t *testing.T) {
	for round := range 200 {
		r := rand.New(rand.NewSource(int64(round)))
		w := &model{}
		for range 60 {
			w.set(drawSet(r, w))
		}
		w.hidden = drawRanges(r)
		want := w.view(root)
		for range 4 {
			m := come(t, r, w.sets)
			m.Hide(drawRanges(r))
			m.View()
			m.Hide(w.hidden)
			if got := m.View(); !exactEntries(got, want) {
				t.Fatalf("round %d: %v, not %v", round, got, want)
			}
		}
	}
}

// TestP12_3SeenAgain: what is hidden, or won over, isn't seen, at whichever depth; it is, when it wins again.
func TestP12_3SeenAgain(t *testing.T) {
	a, b, c := id(1, 1), id(1, 2), id(1, 3)
	m := of(t, set(a, 1, root, "a", aMap), set(b, 1, a, "b", aMap), set(c, 1, b, "c", aMap), set(id(1, 4), 1, c, "v", integer(1)))
	leaf := is("c", aMap, is("v", integer(1)))
	whole := is("a", aMap, is("b", aMap, leaf))
	found := func(what string, n int) {
		t.Helper()
		for k := range 4 {
			if _, ok := m.Find([]string{"a", "b", "c"}[:k]); ok != (k <= n) {
				t.Errorf("%s: Find of %d keys: %v", what, k, ok)
			}
		}
	}
	for range 2 {
		checkView(t, "all", m, whole)
		found("all", 3)
		m.Hide(only(a))
		checkView(t, "the outer one is hidden", m)
		found("the outer one is hidden", 0)
		m.Hide(only(b))
		checkView(t, "one within is hidden", m, is("a", aMap))
		found("one within is hidden", 1)
		m.Hide(only(a, c))
		checkView(t, "two are hidden", m)
		m.Hide(only(c))
		checkView(t, "the inner one is hidden", m, is("a", aMap, is("b", aMap)))
		found("the inner one is hidden", 2)
		m.Hide(nil)
	}
	over := []api.Op{set(id(2, 1), 2, root, "a", integer(5)), set(id(2, 2), 2, a, "b", null), set(id(2, 3), 2, b, "c", aMap)}
	seen := [][]api.Entry{{is("a", integer(5))}, {is("a", aMap)}, {is("a", aMap, is("b", aMap, is("c", aMap)))}}
	for i, o := range over {
		m.Set(o)
		checkView(t, "won over", m, seen[i]...)
		m.Hide(only(id(2, 1), id(2, 2), id(2, 3))[:i+1])
		checkView(t, "wins again", m, whole)
		found("wins again", 3)
	}
	m.Hide(nil)
	checkView(t, "all that win over others", m, is("a", integer(5)))
}

// TestP12_2ManySetsOfOneKey: in whichever order they come, and however many of them are hidden, the greatest one that isn't is told.
func TestP12_2ManySetsOfOneKey(t *testing.T) {
	const n = 100000
	for _, x := range []struct {
		what string
		nth  func(i uint64) uint64
	}{
		{"rising", func(i uint64) uint64 { return 1 + i }},
		{"falling", func(i uint64) uint64 { return n - i }},
		{"mixed", func(i uint64) uint64 { return 1 + i*7919%n }},
	} {
		m := maps.New()
		last := uint64(0)
		for i := range uint64(n) {
			k := x.nth(i)
			m.Set(set(id(1, k), k, root, "k", integer(int64(k))))
			last = max(last, k)
			checkGet(t, x.what, m, root, "k", id(1, last))
		}
		for shown := uint64(n); shown > 1; shown /= 2 {
			m.Hide([]api.Range{{Client: 1, From: shown + 1, To: top}})
			checkGet(t, x.what+", hidden", m, root, "k", id(1, shown))
		}
		m.Hide([]api.Range{{Client: 1, From: 1, To: top}})
		checkGet(t, x.what+", all hidden", m, root, "k", root)
	}
}

// TestP12_2ManyRanges: each second set is hidden by a range of its own.
func TestP12_2ManyRanges(t *testing.T) {
	const n = 100000
	m := maps.New()
	var hidden []api.Range
	for i := uint64(1); i <= n; i++ {
		m.Set(set(id(1, i), i, root, "k"+string(rune(0x4E00+i/10)), integer(int64(i))))
		if i%2 == 1 {
			hidden = append(hidden, api.Range{Client: 1, From: i, To: i + 1})
		}
	}
	m.Hide(hidden)
	got := m.View()
	if len(got) != n/10+1 {
		t.Fatalf("%d keys", len(got))
	}
	for i, e := range got {
		if want := min(int64(10*i+8), n); e.V.N != want {
			t.Fatalf("%q: %d, not %d", e.Key, e.V.N, want)
		}
	}
}

// TestP12_2Deep: as many maps within one another as the document bounds.
func TestP12_2Deep(t *testing.T) {
	const n = 1 << 16
	m := maps.New()
	at := root
	var path []string
	for i := range uint64(n) {
		m.Set(set(id(1, 1+i), 1, at, "m", aMap))
		at = id(1, 1+i)
		path = append(path, "m")
	}
	if got, ok := m.Find(path); got != at || !ok {
		t.Errorf("Find: %v, %v", got, ok)
	}
	depth := 0
	for l := m.Copy().View(); len(l) > 0; l = l[0].Kids {
		depth++
	}
	if depth != n {
		t.Errorf("View: %d deep", depth)
	}
}

// TestP12_2KeepsNothingHandedIn: lists that change once a call has answered change nothing.
func TestP12_2KeepsNothingHandedIn(t *testing.T) {
	m := of(t, set(id(1, 1), 1, root, "k", integer(1)), set(id(1, 2), 2, root, "k", integer(2)))
	hidden := append(make([]api.Range, 0, 8), api.Range{Client: 1, From: 2, To: 3})
	m.Hide(hidden)
	c := m.Copy()
	for i := range hidden[:8] {
		hidden[:8][i] = api.Range{Client: 1, From: 1, To: 2}
	}
	for _, m := range []*maps.Maps{m, c} {
		checkView(t, "hidden as it was", m, is("k", integer(1)))
	}
}

// TestP12_2AnswersNewMemory: whatever is done to an answer, the spare room behind its lists included, its other lists, and what is answered later, are as they were.
func TestP12_2AnswersNewMemory(t *testing.T) {
	m := maps.New()
	var want []api.Entry
	for n := range uint64(3) {
		outer := id(1, 1+n)
		e := is(string(rune('a'+n)), aMap)
		m.Set(set(outer, 1, root, e.Key, aMap))
		for k := range uint64(3) {
			kid := is(string(rune('a'+k)), integer(int64(10*n+k)))
			m.Set(set(id(2+n, 1+k), 1, outer, kid.Key, kid.V))
			e.Kids = append(e.Kids, kid)
		}
		want = append(want, e)
	}
	for i := range want {
		got := m.View()
		spoil(got[i].Kids)
		for k := range want {
			if k != i && !exactEntries(got[k:k+1], want[k:k+1]) {
				t.Errorf("the entries of %d and %d share memory", i, k)
			}
		}
		first := got[0].Kids
		spoil(got)
		if i > 0 && !exactEntries(first, want[0].Kids) {
			t.Error("the root's entries and those of a map share memory")
		}
		checkView(t, "asked again", m, want...)
		checkView(t, "a copy", m.Copy(), want...)
	}
}

// spoil overwrites a list and the spare room behind it.
func spoil(l []api.Entry) {
	l = l[:cap(l)]
	for i := range l {
		l[i] = is("spoilt", text("spoilt"), is("spoilt", null))
	}
}
