package maps_test

import (
	"math"
	"slices"
	"strings"
	"testing"

	"quire/api"
	"quire/maps"
)

// strange: ids of no set of any test, right ones and others.
var strange = []api.Id{id(7, 7), id(1, 99), id(99, 1), id(top, 1), id(top-1, top), id(0, 1), id(1, 0), id(0, 3), id(top+1, 1), id(1, top+1), id(math.MaxUint64, math.MaxUint64)}

func TestP12_1SetOfOtherKinds(t *testing.T) {
	m := of(t, set(id(1, 1), 1, root, "m", aMap))
	for _, kind := range []int{0, api.OpText, api.OpEmbed, api.OpMark, api.OpSet + 1, -1, api.OpSet + 256, math.MaxInt, math.MinInt} {
		for _, parent := range []api.Id{root, id(1, 1)} {
			o := set(id(1, 2), 9, parent, "m", aMap)
			o.Kind = kind
			if m.Set(o) || m.Is(o.Id) {
				t.Errorf("kind %d is taken", kind)
			}
			checkView(t, "another kind", m, is("m", aMap))
		}
	}
	if !m.Set(set(id(1, 2), 9, root, "n", integer(1))) {
		t.Error("an id that was told by what is no set alone is refused")
	}
}

func TestP12_1SetOfIds(t *testing.T) {
	m := maps.New()
	for _, x := range []api.Id{root, id(0, 1), id(1, 0), id(top+1, 1), id(1, top+1), id(math.MaxUint64, 1), id(1, math.MaxUint64)} {
		for _, v := range []api.Value{integer(1), null, aMap} {
			if m.Set(set(x, 1, root, "k", v)) {
				t.Errorf("%v is taken", x)
			}
		}
		if m.Is(x) != (x == root) {
			t.Errorf("Is %v: %v", x, m.Is(x))
		}
	}
	checkView(t, "none that is right", m)
	for n, x := range []api.Id{id(1, 1), id(1, top), id(top, 1), id(top, top)} {
		if !m.Set(set(x, uint64(1+n), root, "k", integer(int64(n)))) {
			t.Errorf("%v is refused", x)
		}
	}
	checkView(t, "the edges of right ones", m, is("k", integer(3)))
}

// TestP12_1SetToldAlready: whatever a second set of an id tells, nothing comes of it.
func TestP12_1SetToldAlready(t *testing.T) {
	one, two := set(id(1, 1), 2, root, "k", integer(1)), set(id(1, 2), 2, root, "m", aMap)
	m := of(t, one, two)
	for range 2 {
		for _, o := range list(
			one, two,
			set(id(1, 1), 9, root, "k", integer(2)), set(id(1, 1), 9, root, "k", null), set(id(1, 1), 2, root, "z", integer(1)),
			set(id(1, 1), 2, root, "k", aMap), set(id(1, 1), 2, id(1, 2), "k", integer(1)),
			set(id(1, 2), 9, root, "m", integer(2)), set(id(1, 2), 9, id(1, 2), "m", aMap), set(id(1, 2), 2, root, "z", aMap),
		) {
			if m.Set(o) {
				t.Errorf("%v is taken", o)
			}
			if m.Is(id(1, 1)) || !m.Is(id(1, 2)) {
				t.Errorf("%v: another one is a map", o)
			}
			checkView(t, "told already", m, is("k", integer(1)), is("m", aMap))
		}
		m.Hide(only(id(1, 1), id(1, 2)))
		checkView(t, "hidden", m)
		if m.Set(one) || m.Set(two) {
			t.Error("hidden ones are told already, too")
		}
		m.Hide(nil)
	}
}

func TestP12_1SetOfParents(t *testing.T) {
	m := of(t,
		set(id(1, 1), 1, root, "m", aMap), set(id(1, 2), 1, root, "v", integer(1)), set(id(1, 3), 1, root, "n", null),
		set(id(1, 4), 1, root, "h", aMap), set(id(1, 5), 1, root, "w", aMap), set(id(1, 6), 2, root, "w", integer(1)))
	m.Hide(only(id(1, 4)))
	for _, x := range []struct {
		what   string
		parent api.Id
		want   bool
	}{
		{"the root", root, true}, {"a map", id(1, 1), true}, {"a hidden map", id(1, 4), true}, {"a map that is won over", id(1, 5), true},
		{"an int", id(1, 2), false}, {"null", id(1, 3), false}, {"none that is there", id(1, 7), false}, {"its own", id(2, 1), false},
		{"half zeros", id(1, 0), false}, {"half zeros", id(0, 1), false}, {"none that is right", id(top+1, 1), false},
	} {
		c := m.Copy()
		was := c.View()
		if c.Set(set(id(2, 1), 3, x.parent, "x", aMap)) != x.want || c.Is(id(2, 1)) != x.want {
			t.Errorf("%s as Parent: not %v", x.what, x.want)
		}
		if !x.want && !exactEntries(c.View(), was) {
			t.Errorf("%s as Parent: refused, and seen: %v", x.what, c.View())
		}
	}
	if m.Is(id(2, 1)) {
		t.Error("what copies were told is told to all")
	}
}

// TestP12_1SetAheadOfItsParent: it is refused, says nothing, and is taken once the map is there.
func TestP12_1SetAheadOfItsParent(t *testing.T) {
	outer, inner, leaf := set(id(3, 1), 1, root, "o", aMap), set(id(2, 1), 1, id(3, 1), "i", aMap), set(id(1, 1), 1, id(2, 1), "l", integer(7))
	m := maps.New()
	for n, want := range [][]bool{{false, false, true}, {false, true, false}, {true, false, false}} {
		for i, o := range list(leaf, inner, outer) {
			if m.Set(o) != want[i] {
				t.Errorf("turn %d: %v: not %v", n, o, want[i])
			}
		}
	}
	checkView(t, "all came", m, is("o", aMap, is("i", aMap, is("l", integer(7)))))
}

// TestP12_1SetAsksNothingElse: keys, stamps and values of every sort are taken, other fields too.
func TestP12_1SetAsksNothingElse(t *testing.T) {
	long := strings.Repeat("k", api.MaxKey+1)
	l := list(
		set(id(1, 1), 0, root, "", integer(1)), set(id(1, 2), math.MaxUint64, root, "\xFF", integer(2)), set(id(1, 3), top+1, root, long, integer(3)),
		set(id(1, 4), 1, root, "v", api.Value{Kind: 17, N: 3, S: "x"}),
	)
	l[0].Text, l[0].Left, l[0].Right, l[0].From, l[0].To = "t", id(1, 9), id(1, 8), api.Anchor{Id: id(1, 7), After: true}, api.Anchor{After: true}
	m := of(t, l...)
	for _, o := range l {
		if got, ok := m.Get(root, o.Key); !ok || !exactOp(got, o) {
			t.Errorf("Get %q: %v, %v", o.Key, got, ok)
		}
	}
	checkView(t, "all", m, is("", integer(1)), is(long, integer(3)), is("v", l[3].V), is("\xFF", integer(2)))
}

func TestP12_1Is(t *testing.T) {
	var l []api.Op
	for n, v := range []api.Value{null, boolean(1), integer(5), float(5), text("map"), {Kind: -1}, {Kind: api.ValMap + 1}} {
		l = append(l, set(id(2, uint64(1+n)), 1, root, "v", v))
	}
	seen, hidden, late, lost, inner := id(1, 1), id(1, 2), id(1, 3), id(1, 4), id(1, 5)
	l = append(l, set(seen, 1, root, "seen", aMap), set(hidden, 1, root, "hidden", aMap), set(lost, 1, root, "lost", aMap), set(id(1, 9), 2, root, "lost", null), set(inner, 1, hidden, "inner", aMap))
	for _, x := range append(strange, seen, hidden, late, lost, inner) {
		if maps.New().Is(x) {
			t.Errorf("%v is a map of none", x)
		}
	}
	m := of(t, l...)
	m.Hide(only(hidden, late, id(2, 2)))
	m.Set(set(late, 1, root, "late", aMap))
	for _, x := range []api.Id{root, seen, hidden, late, lost, inner} {
		if !m.Is(x) {
			t.Errorf("%v is no map", x)
		}
	}
	for n := range uint64(7) {
		if m.Is(id(2, 1+n)) {
			t.Errorf("%v is a map", l[n].V)
		}
	}
	for _, x := range strange {
		if m.Is(x) {
			t.Errorf("%v, which isn't there, is a map", x)
		}
	}
	if !maps.New().Is(root) {
		t.Error("the root of none is no map")
	}
}

func TestP12_1Hide(t *testing.T) {
	var l []api.Op
	for n := uint64(1); n <= 6; n++ {
		l = append(l, set(id(5, n), 1, root, string(rune('a'+n-1)), integer(int64(n))))
	}
	l = append(l, set(id(4, 3), 1, root, "x", integer(43)), set(id(6, 3), 1, root, "y", integer(63)), set(id(top, top), 1, root, "z", integer(9)))
	for _, x := range []struct {
		what   string
		hidden triples
		want   string // the keys that are left
	}{
		{"nil", nil, "abcdefxyz"},
		{"empty", triples{}, "abcdefxyz"},
		{"one", triples{{5, 3, 4}}, "abdefxyz"},
		{"the first", triples{{5, 1, 2}}, "bcdefxyz"},
		{"the last", triples{{5, 6, 7}}, "abcdexyz"},
		{"several", triples{{5, 2, 5}}, "aefxyz"},
		{"of several clients", triples{{4, 3, 4}, {5, 1, 2}, {6, 3, 4}}, "bcdefz"},
		{"in another order", triples{{6, 3, 4}, {5, 5, 7}, {4, 3, 4}, {5, 1, 2}}, "bcdz"},
		{"overlapping", triples{{5, 2, 5}, {5, 1, 3}}, "efxyz"},
		{"within one another", triples{{5, 3, 4}, {5, 1, 7}, {5, 2, 6}}, "xyz"},
		{"touching", triples{{5, 3, 5}, {5, 1, 3}}, "efxyz"},
		{"doubled", triples{{5, 3, 4}, {5, 3, 4}}, "abdefxyz"},
		{"with gaps", triples{{5, 1, 2}, {5, 3, 4}, {5, 5, 6}}, "bdfxyz"},
		{"all of a client", triples{{5, 1, top + 1}}, "xyz"},
		{"up to MaxId", triples{{top, top, top + 1}}, "abcdefxy"},
		{"of others", triples{{1, 1, 9}, {5, 7, 99}, {4, 1, 3}, {4, 4, 9}, {7, 3, 4}}, "abcdefxyz"},
		{"empty ones", triples{{5, 3, 3}, {5, 0, 0}, {0, 0, 0}}, "abcdefxyz"},
		{"backwards", triples{{5, 5, 2}}, "abcdefxyz"},
		{"from 0", triples{{5, 0, 4}}, "abcdefxyz"},
		{"past MaxId", triples{{5, 1, top + 2}, {top, top, top + 2}, {5, 1, math.MaxUint64}}, "abcdefxyz"},
		{"of no client", triples{{0, 1, 9}, {top + 1, 1, 9}}, "abcdefxyz"},
		{"wrong and right ones", triples{{5, 0, 4}, {5, 4, 5}, {5, 6, 1}, {0, 1, 2}, {4, 3, 4}}, "abcefyz"},
	} {
		m := of(t, l...)
		m.Hide(ranges(triples{{5, 1, 7}, {top, 1, 3}})) // only the last Hide counts
		m.Hide(aside(t, ranges(x.hidden)))
		late := maps.New()
		late.Hide(aside(t, ranges(x.hidden)))
		for _, o := range l {
			late.Set(o)
		}
		for _, m := range []*maps.Maps{m, m.Copy(), late, late.Copy()} {
			left := ""
			for _, e := range m.View() {
				left += e.Key
			}
			if left != x.want {
				t.Errorf("%s: %s, not %s", x.what, left, x.want)
			}
			for _, o := range l {
				if got, ok := m.Get(root, o.Key); ok != strings.Contains(x.want, o.Key) || ok && !exactOp(got, o) || !ok && got != (api.Op{}) {
					t.Errorf("%s: Get %s: %v, %v", x.what, o.Key, got, ok)
				}
			}
		}
	}
}

// TestP12_1HideAnew: a set that a later Hide doesn't name is shown again.
func TestP12_1HideAnew(t *testing.T) {
	a, b, c := id(1, 1), id(2, 1), id(3, 1)
	m := of(t, set(a, 1, root, "k", integer(1)), set(b, 2, root, "k", integer(2)), set(c, 3, root, "k", integer(3)))
	for _, x := range []struct {
		hidden []api.Range
		want   api.Id
	}{{nil, c}, {only(c), b}, {only(b), c}, {only(b, c), a}, {only(a, b, c), root}, {only(a, b), c}, {only(c, a), b}, {nil, c}} {
		m.Hide(x.hidden)
		checkGet(t, "hidden anew", m, root, "k", x.want)
	}
}

func TestP12_2Example(t *testing.T) {
	m := of(t, set(id(1, 1), 2, root, "k", integer(1)), set(id(1, 2), 3, root, "k", null))
	checkView(t, "null wins", m)
	m.Hide(only(id(1, 2)))
	checkView(t, "the second is hidden", m, is("k", integer(1)))
}

func TestP12_2Get(t *testing.T) {
	k := func(client, clock, stamp uint64, v api.Value) api.Op {
		return set(id(client, clock), stamp, root, "k", v)
	}
	one := integer(1)
	for _, x := range []struct {
		what   string
		l      []api.Op
		hidden []api.Range
		want   api.Id
	}{
		{"none", nil, nil, root},
		{"one", list(k(1, 1, 1, one)), nil, id(1, 1)},
		{"by stamps", list(k(3, 1, 1, one), k(2, 1, 2, one), k(1, 1, 3, one)), nil, id(1, 1)},
		{"by clients", list(k(1, 9, 5, one), k(2, 8, 5, one), k(top, 1, 5, one)), nil, id(top, 1)},
		{"by clocks", list(k(1, 1, 5, one), k(1, top, 5, one), k(1, 9, 5, one)), nil, id(1, top)},
		{"a stamp beats ids", list(k(top, top, 1, one), k(1, 1, 2, one)), nil, id(1, 1)},
		{"null is the greatest", list(k(1, 1, 1, one), k(1, 2, 2, null)), nil, root},
		{"null is the greatest by ids", list(k(1, 1, 2, one), k(2, 1, 2, null)), nil, root},
		{"null alone", list(k(1, 1, 1, null)), nil, root},
		{"null is less", list(k(1, 1, 1, null), k(1, 2, 2, one)), nil, id(1, 2)},
		{"false, 0, an empty text are no nulls", list(k(1, 1, 1, boolean(0)), k(1, 2, 2, integer(0)), k(1, 3, 3, text(""))), nil, id(1, 3)},
		{"the greatest is hidden", list(k(1, 1, 1, one), k(1, 2, 2, one), k(1, 3, 3, one)), only(id(1, 3)), id(1, 2)},
		{"the two greatest are hidden", list(k(1, 1, 1, one), k(1, 2, 2, one), k(1, 3, 3, one)), only(id(1, 2), id(1, 3)), id(1, 1)},
		{"a lesser one is hidden", list(k(1, 1, 1, one), k(1, 2, 2, one)), only(id(1, 1)), id(1, 2)},
		{"all are hidden", list(k(1, 1, 1, one), k(1, 2, 2, one)), only(id(1, 1), id(1, 2)), root},
		{"a null is hidden", list(k(1, 1, 1, one), k(1, 2, 2, null)), only(id(1, 2)), id(1, 1)},
		{"a null below a hidden one", list(k(1, 1, 1, one), k(1, 2, 2, null), k(1, 3, 3, one)), only(id(1, 3)), root},
		{"other keys", list(k(1, 1, 1, one), set(id(1, 2), 9, root, "K", one), set(id(1, 3), 9, root, "", one), set(id(1, 4), 9, root, "k\x00", null)), nil, id(1, 1)},
	} {
		permute(x.l, func(l []api.Op) {
			m := of(t, l...)
			m.Hide(x.hidden)
			checkGet(t, x.what, m, root, "k", x.want)
			for _, o := range l {
				if got, ok := m.Get(root, "k"); o.Id == x.want && (!ok || !exactOp(got, o)) {
					t.Errorf("%s: %v, %v, not %v", x.what, got, ok, o)
				}
			}
		})
	}
}

func TestP12_2GetOfParents(t *testing.T) {
	seen, hidden, lost := id(1, 1), id(1, 2), id(1, 3)
	m := of(t,
		set(seen, 1, root, "s", aMap), set(hidden, 1, root, "h", aMap), set(lost, 1, root, "l", aMap), set(id(1, 4), 2, root, "l", integer(1)),
		set(id(2, 1), 5, root, "k", integer(1)), set(id(2, 2), 4, seen, "k", integer(2)), set(id(2, 3), 3, hidden, "k", integer(3)), set(id(2, 4), 2, lost, "k", integer(4)))
	m.Hide(only(hidden))
	checkGet(t, "of the root", m, root, "k", id(2, 1))
	checkGet(t, "of a map", m, seen, "k", id(2, 2))
	checkGet(t, "of a hidden map", m, hidden, "k", id(2, 3))
	checkGet(t, "of a map that is won over", m, lost, "k", id(2, 4))
	checkGet(t, "a map", m, root, "s", seen)
	checkGet(t, "a hidden map", m, root, "h", root)
	checkGet(t, "a map's key that isn't there", m, seen, "s", root)
	checkGet(t, "of what is no map", m, id(2, 1), "k", root)
	for _, x := range strange {
		checkGet(t, "of what isn't there", m, x, "k", root)
		checkGet(t, "of none", maps.New(), x, "k", root)
	}
	checkGet(t, "of none", maps.New(), root, "k", root)
}

func TestP12_2Find(t *testing.T) {
	a, b, c, h, l, g := id(1, 1), id(1, 2), id(1, 3), id(1, 4), id(1, 5), id(1, 6)
	m := of(t,
		set(a, 1, root, "a", aMap), set(b, 1, a, "b", aMap), set(c, 1, b, "", aMap),
		set(id(2, 1), 1, root, "v", integer(1)), set(id(2, 2), 1, root, "n", null), set(id(2, 3), 1, b, "t", text("a")),
		set(h, 1, root, "h", aMap), set(id(2, 4), 1, h, "b", aMap), // hidden
		set(l, 1, root, "l", aMap), set(id(2, 5), 1, l, "b", aMap), set(id(2, 6), 2, root, "l", integer(1)), // won over by an int
		set(id(2, 7), 1, root, "g", aMap), set(id(2, 8), 1, id(2, 7), "b", aMap), set(g, 2, root, "g", aMap), // won over by a map
		set(id(2, 9), 1, root, "0", aMap), set(id(2, 10), 1, id(2, 9), "b", aMap), set(id(2, 11), 2, root, "0", null)) // won over by null
	m.Hide(only(h))
	for _, x := range []struct {
		path []string
		want api.Id
	}{{[]string{"a"}, a}, {[]string{"a", "b"}, b}, {[]string{"a", "b", ""}, c}, {[]string{"g"}, g}} {
		if got, ok := m.Find(aside(t, x.path)); got != x.want || !ok {
			t.Errorf("%q: %v, %v, not %v", x.path, got, ok, x.want)
		}
	}
	for _, path := range [][]string{
		{"v"}, {"n"}, {"x"}, {""}, {"b"}, {"a", "x"}, {"a", "a"}, {"x", "a"}, {"a", "b", "t"}, {"a", "b", "", ""}, {"A"}, {"a\x00"},
		{"v", "b"}, {"v", ""}, {"n", "b"}, {"a", "b", "t", "b"}, {"x", "b"},
		{"h"}, {"h", "b"}, {"l"}, {"l", "b"}, {"g", "b"}, {"0"}, {"0", "b"},
	} {
		if got, ok := m.Find(aside(t, path)); got != root || ok {
			t.Errorf("%q: %v, %v", path, got, ok)
		}
	}
	for _, x := range []*maps.Maps{m, maps.New()} {
		for _, path := range [][]string{nil, {}} {
			if got, ok := x.Find(path); got != root || !ok {
				t.Errorf("the empty path: %v, %v", got, ok)
			}
		}
	}
	if _, ok := maps.New().Find([]string{"a"}); ok {
		t.Error("a map is found in none")
	}
}

func TestP12_2View(t *testing.T) {
	checkView(t, "none", maps.New())
	checkView(t, "an empty map", of(t, set(id(1, 1), 1, root, "m", aMap)), is("m", aMap))
	checkView(t, "a map of null", of(t, set(id(1, 1), 1, root, "m", aMap), set(id(1, 2), 1, id(1, 1), "k", null)), is("m", aMap))
	m := of(t,
		set(id(1, 1), 1, root, "n", aMap), set(id(1, 2), 1, root, "b", integer(1)), set(id(1, 3), 1, root, "a", aMap),
		set(id(1, 4), 1, id(1, 1), "z", aMap), set(id(1, 5), 1, id(1, 1), "a", integer(2)), set(id(1, 6), 1, id(1, 4), "n", integer(3)),
		set(id(1, 7), 1, id(1, 4), "b", aMap), set(id(1, 8), 1, id(1, 3), "n", text("x")), set(id(1, 9), 1, root, "0", null))
	checkView(t, "maps within maps", m,
		is("a", aMap, is("n", text("x"))), is("b", integer(1)), is("n", aMap, is("a", integer(2)), is("z", aMap, is("b", aMap), is("n", integer(3)))))
}

// TestP12_2ViewOfAMapThatIsWonOver: it takes its entries with it; the map that wins has its own.
func TestP12_2ViewOfAMapThatIsWonOver(t *testing.T) {
	first, second := id(1, 1), id(2, 1)
	m := of(t, set(first, 1, root, "m", aMap), set(id(1, 2), 1, first, "a", integer(1)), set(second, 2, root, "m", aMap), set(id(2, 2), 1, second, "b", integer(2)))
	checkView(t, "the second map wins", m, is("m", aMap, is("b", integer(2))))
	m.Hide(only(second))
	checkView(t, "the first one wins again", m, is("m", aMap, is("a", integer(1))))
	m.Set(set(id(2, 3), 3, second, "c", integer(3)))
	m.Set(set(id(1, 3), 3, first, "d", integer(4)))
	checkView(t, "what came since", m, is("m", aMap, is("a", integer(1)), is("d", integer(4))))
	m.Hide(nil)
	checkView(t, "what came to a hidden one", m, is("m", aMap, is("b", integer(2)), is("c", integer(3))))
	m.Set(set(id(3, 1), 3, root, "m", integer(0)))
	checkView(t, "an int wins", m, is("m", integer(0)))
}

func TestP12_2ViewByBytes(t *testing.T) {
	keys := []string{"", "\x00", "A", "a", "a\x00", "aa", "ab", "b", "é", "\uFFFF", "\U00010000", "\xFF", "\xFFa"}
	outer := id(9, 1)
	var l []api.Op
	var want []api.Entry
	for n, key := range keys {
		l = append(l, set(id(1, uint64(1+n)), uint64(len(keys)-n), outer, key, integer(int64(n))))
		want = append(want, is(key, integer(int64(n))))
	}
	for range keys {
		l = append(l[1:], l[0])
		checkView(t, "keys", of(t, append(list(set(outer, 1, root, "m", aMap)), l...)...), is("m", aMap, want...))
		slices.Reverse(l)
		checkView(t, "keys", of(t, append(list(set(outer, 1, root, "m", aMap)), l...)...), is("m", aMap, want...))
		slices.Reverse(l)
	}
}

// TestP12_2Values: they are told as they came, but that there is one NaN.
func TestP12_2Values(t *testing.T) {
	check := func(v, want api.Value) {
		t.Helper()
		m := of(t, set(id(1, 1), 1, root, "m", aMap), set(id(1, 2), 1, id(1, 1), "k", v))
		for _, m := range []*maps.Maps{m, m.Copy()} {
			checkView(t, "a value", m, is("m", aMap, is("k", want)))
			if got, ok := m.Get(id(1, 1), "k"); !ok || !exactOp(got, set(id(1, 2), 1, id(1, 1), "k", want)) {
				t.Errorf("Get: %v, %v, not %v", got, ok, want)
			}
		}
	}
	for _, v := range []api.Value{
		boolean(0), boolean(1), integer(0), integer(-1), integer(math.MinInt64), integer(math.MaxInt64), integer(1<<53 + 1),
		float(0), float(math.Copysign(0, -1)), float(0.1), float(math.SmallestNonzeroFloat64), float(math.MaxFloat64), float(math.Inf(1)), float(math.Inf(-1)), floatOf(theNaN),
		text(""), text("a\x00\"é\U0001F600"), text(strings.Repeat("x", api.MaxString)), aMap,
		{Kind: -1}, {Kind: 6, N: 2}, {Kind: api.ValBool, N: 7, S: "x"}, text("\xFF"), // no values
	} {
		check(v, v)
	}
	for _, bits := range []uint64{theNaN + 1, math.Float64bits(math.NaN()), 0x7FF0000000000001, 0x7FFFFFFFFFFFFFFF, 0xFFF8000000000000, 0xFFF0000000000001, math.MaxUint64} {
		check(floatOf(bits), floatOf(theNaN))
	}
}

// TestP12_2Copy: the copy, and the one that was copied, go their own ways.
func TestP12_2Copy(t *testing.T) {
	outer := id(1, 1)
	for _, copied := range []bool{false, true} {
		m := of(t, set(outer, 1, root, "m", aMap), set(id(1, 2), 1, outer, "a", integer(1)), set(id(1, 3), 2, outer, "a", integer(2)), set(id(1, 4), 1, root, "k", integer(3)))
		m.Hide(only(id(1, 3), id(2, 9)))
		was := entries(is("k", integer(3)), is("m", aMap, is("a", integer(1))))
		x, y := m.Copy(), m
		if copied {
			x, y = y, x
		}
		checkView(t, "both alike", x, was...)
		for n := uint64(1); n <= 9; n++ {
			x.Set(set(id(2, n), 5, root, "k", integer(5)))
			x.Set(set(id(3, n), n, outer, "a", integer(6)))
			x.Set(set(id(4, n), n, outer, string(rune('a'+n)), aMap))
			checkView(t, "left alone", y, was...)
			if !x.Is(id(4, n)) || y.Is(id(4, n)) {
				t.Errorf("%v isn't a map of the one alone", id(4, n))
			}
		}
		checkGet(t, "hidden ahead of the copy", x, root, "k", id(2, 8))
		x.Hide(only(id(1, 1), id(1, 2), id(1, 4)))
		checkView(t, "left alone", y, was...)
		x.Hide(nil)
		checkView(t, "left alone", y, was...)
		checkGet(t, "not hidden any more", x, root, "k", id(2, 9))
		if x.Set(set(id(1, 2), 9, outer, "a", null)) || y.Set(set(id(1, 2), 9, outer, "a", null)) {
			t.Error("what was told ahead of the copy isn't told")
		}
		if !y.Set(set(id(3, 1), 1, outer, "a", integer(7))) || !y.Set(set(id(2, 9), 9, outer, "a", null)) {
			t.Error("what the other was told is told already")
		}
		checkGet(t, "still hidden", y, outer, "a", id(3, 1))
	}
}
