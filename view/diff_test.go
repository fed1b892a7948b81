package view_test

import (
	"math/rand"
	"slices"
	"strings"
	"testing"

	"quire/api"
	"quire/view"
)

func TestP14_3Example(t *testing.T) {
	if at, n, l := diff(t, list(text("abc")), list(text("axc"))); at != 1 || n != 1 || !exactRuns(l, list(text("x"))) {
		t.Errorf("%d, %d, %v", at, n, l)
	}
}

func TestP14_3Diff(t *testing.T) {
	for _, x := range []struct {
		a, b  []api.Run
		at, n int
		l     []api.Run
	}{
		{nil, nil, 0, 0, nil}, {list(text("")), list(text("", bold)), 0, 0, nil}, {list(text("ab")), list(text("ab")), 2, 0, nil}, // the same
		{list(text("a"), embed(null, bold)), list(text("a"), embed(null, bold)), 2, 0, nil}, {list(embed(integer(3))), list(embed(integer(3))), 1, 0, nil},
		{nil, list(text("ab"), embed(null)), 0, 0, list(text("ab"), embed(null))}, {list(text("ab"), embed(null)), nil, 0, 3, nil}, {list(text("ab")), list(text("")), 0, 2, nil}, // one is empty
		{list(text("ab")), list(text("abc")), 2, 0, list(text("c"))}, {list(text("abc")), list(text("ab")), 2, 1, nil}, // one begins with the other
		{list(text("ab")), list(text("ab"), text("c", bold)), 2, 0, list(text("c", bold))}, {list(text("ab")), list(text("ab"), embed(null)), 2, 0, list(embed(null))},
		{list(text("bc")), list(text("abc")), 0, 0, list(text("a"))}, {list(text("abc")), list(text("bc")), 0, 1, nil}, // one ends with the other
		{list(text("bc")), list(text("a", bold), text("bc")), 0, 0, list(text("a", bold))}, {list(embed(null), text("bc")), list(text("bc")), 0, 1, nil},
		{list(text("aa")), list(text("aaa")), 2, 0, list(text("a"))}, {list(text("aaa")), list(text("aa")), 2, 1, nil}, // what both begin with comes first, and no unit counts twice
		{list(text("aba")), list(text("ababa")), 3, 0, list(text("ba"))}, {list(text("ababa")), list(text("aba")), 3, 2, nil}, {list(text("aba")), list(text("a")), 1, 2, nil}, {list(text("a")), list(text("aba")), 1, 0, list(text("ba"))},
		{list(embed(null), embed(null)), list(embed(null)), 1, 1, nil}, {list(embed(null)), list(embed(null), embed(null)), 1, 0, list(embed(null))},
		{list(text("abcab")), list(text("abxab")), 2, 1, list(text("x"))}, {list(text("abcab")), list(text("abab")), 2, 1, nil}, {list(text("abab")), list(text("abcab")), 2, 0, list(text("c"))},
		{list(text("a"), text("b"), text("c")), list(text("ab"), text(""), text("c")), 3, 0, nil}, {list(text("ab"), text("c")), list(text("a"), text("xc")), 1, 1, list(text("x"))}, // other cuts
		{list(text("ab"), text("", bold), text("\xFF"), text("cd")), list(text("abxcd")), 2, 0, list(text("x"))},
		{list(text("abc")), list(text("a"), text("b", bold), text("c")), 1, 1, list(text("b", bold))}, {list(text("abc", bold)), list(text("abc", not)), 0, 3, list(text("abc", not))}, // marks alone differ
		{list(text("abc", bold)), list(text("abc")), 0, 3, list(text("abc"))}, {list(text("ab", bold)), list(text("ab", bold, high)), 0, 2, list(text("ab", bold, high))}, {list(text("a", bold, high)), list(text("a", high, bold)), 0, 1, list(text("a", high, bold))},
		{list(text("ab"), text("cd", bold)), list(text("abc"), text("d", bold)), 2, 1, list(text("c"))}, {list(text("abc"), text("d", bold)), list(text("ab"), text("cd", bold)), 2, 1, list(text("c", bold))},
		{list(text("a", mark("k", float(0)))), list(text("a", mark("k", float(minusZero)))), 0, 1, list(text("a", mark("k", float(minusZero))))},
		{list(embed(integer(1))), list(embed(integer(2))), 0, 1, list(embed(integer(2)))}, {list(embed(null)), list(embed(null, bold)), 0, 1, list(embed(null, bold))}, // embeds differ
		{list(text("a"), embed(integer(1)), text("b")), list(text("a"), embed(integer(2)), text("b")), 1, 1, list(embed(integer(2)))}, {list(embed(float(0))), list(embed(float(minusZero))), 0, 1, list(embed(float(minusZero)))},
		{list(embed(integer(0))), list(embed(float(0))), 0, 1, list(embed(float(0)))}, {list(embed(boolean(1))), list(embed(boolean(2))), 0, 1, list(embed(boolean(2)))}, // value.Same tells them apart, their texts don't
		{list(text("\uFFFC")), list(embed(null)), 0, 1, list(embed(null))}, {list(embed(words("a"))), list(text("a")), 0, 1, list(text("a"))},
		{list(text("xéy")), list(text("xèy")), 1, 1, list(text("è"))}, {list(text("\U0001F600")), list(text("\U0001F601")), 0, 1, list(text("\U0001F601"))}, {list(text("\U0001F400")), list(text("\U0001F600")), 0, 1, list(text("\U0001F600"))}, // runes, not bytes
		{list(text("\u00E9")), list(text("\u0169")), 0, 1, list(text("\u0169"))}, {list(text("\uFFFD")), list(text("\uFFFD\uFFFD")), 1, 0, list(text("\uFFFD"))}, {list(text("\uFFFD\uFFFD")), list(text("\uFFFD")), 1, 1, nil},
		{list(text("a"), embed(null), text("b"), text("c", bold)), list(text("a"), embed(null), text("x"), embed(null), text("c", bold)), 2, 1, list(text("x"), embed(null))},
		{list(text("ab"), text("cd"), text("e", bold)), list(text("ax"), text("y", bold), text("d"), text("e", bold)), 1, 2, list(text("x"), text("y", bold))},
	} {
		if at, n, l := diff(t, x.a, x.b); at != x.at || n != x.n || !exactRuns(l, x.l) {
			t.Errorf("Diff(%v, %v): %d, %d, %v, not %d, %d, %v", x.a, x.b, at, n, l, x.at, x.n, x.l)
		}
		checkLists(t, x.a, x.b, x.at, x.n)
		checkLists(t, x.b, x.a, x.at, x.n)
	}
}

// What isn't used of a run makes no difference.
func TestP14_3DiffOfWhatARunDoesNotUse(t *testing.T) {
	a := list(api.Run{Text: "a", V: integer(1)}, api.Run{Text: "x", Embed: true})
	b := list(api.Run{Text: "a", V: integer(2)}, api.Run{Text: "y", Embed: true})
	if at, n, l := diff(t, a, b); at != 2 || n != 0 || len(l) != 0 {
		t.Errorf("%d, %d, %v", at, n, l)
	}
}

func TestP14_4EachWithEach(t *testing.T) {
	l := someLists()
	for i, a := range l {
		for k, b := range l {
			checkLists(t, a, b, i%4-1, k%4-1)
		}
	}
}

// drawn: a list from numbers; few runes and marks, so that much is alike.
func drawn(next func(n int) int) []api.Run {
	pieces := []string{"", "a", "b", "ab", "aba", "é", "è", "\U0001F600", "\U0001F601a", "\xC3"}
	someMarks := [][]api.Mark{nil, nil, nil, {bold}, {not}, {bold, high}, {mark("k", floatOf(theNaN))}, {mark("k", floatOf(theNaN+1))}}
	values := []api.Value{null, integer(1), float(0), float(minusZero), floatOf(0xFFF8000000000000)}
	var l []api.Run
	for range next(7) {
		r := api.Run{Text: pieces[next(len(pieces))], Marks: someMarks[next(len(someMarks))]}
		if next(4) == 0 {
			r.Embed, r.V = true, values[next(len(values))]
		}
		l = append(l, r)
	}
	return l
}

// altered: l with few others in it, so that much ahead and behind is alike.
func altered(next func(n int) int, l []api.Run) []api.Run {
	out := slices.Clone(l)
	for range next(3) {
		at := next(len(out) + 1)
		out = slices.Concat(out[:at], drawn(next), out[min(at+next(3), len(out)):])
	}
	return out
}

func TestP14_4Drawn(t *testing.T) {
	random := rand.New(rand.NewSource(14))
	for range 20000 {
		a := drawn(random.Intn)
		b := altered(random.Intn, a)
		checkLists(t, a, b, random.Intn(14)-2, random.Intn(14)-2)
	}
}

func FuzzP14_4Diff(f *testing.F) {
	f.Add([]byte{}, 0, 0)
	f.Add([]byte{3, 1, 0, 1, 4, 3, 1, 0, 0, 2, 1, 0, 1, 5}, 1, 2)
	f.Add([]byte{6, 5, 5, 5, 5, 5, 5, 5, 5, 5, 0, 0, 0, 1, 1, 1, 2, 2, 2}, -1, 99)
	f.Fuzz(func(t *testing.T, b []byte, from, to int) {
		next := func(n int) int {
			if len(b) == 0 {
				return 0
			}
			got := int(b[0]) % n
			b = b[1:]
			return got
		}
		one := drawn(next)
		other := altered(next, one)
		checkLists(t, one, other, from, to)
		checkLists(t, other, one, to, from)
	})
}

// FuzzP14_4Texts: texts of any bytes.
func FuzzP14_4Texts(f *testing.F) {
	f.Add("abc", "axc", 0, 1)
	f.Add("é", "\xC3", 1, 1)
	f.Add("\uFFFD", "\uFFFD\uFFFD", -1, 4)
	f.Fuzz(func(t *testing.T, x, y string, from, to int) {
		checkLists(t, list(text(x), text(y)), list(text(y), text(x)), from, to)
		checkLists(t, list(text(x, bold), text(y)), list(text(x+y), embed(words(x))), from, to)
	})
}

// Long lists cost what they hold, not the square of it: runs of one rune each, all of them in one in the end.
func TestP14_4Long(t *testing.T) {
	const long = 1 << 17
	var pieces []api.Run
	for range long {
		pieces = append(pieces, text("é", bold))
	}
	a := list(text(strings.Repeat("é", long), bold))
	if got := view.Clean(pieces); !exactRuns(got, a) {
		t.Errorf("Clean: %d runs", len(got))
	}
	b := slices.Clone(pieces)
	b[long/2] = embed(null)
	at, n, l := view.Diff(pieces, b)
	if at != long/2 || n != 1 || !exactRuns(l, list(embed(null))) {
		t.Errorf("Diff: %d, %d, %v", at, n, l)
	}
	if got := view.Patch(pieces, at, n, l); !exactRuns(got, view.Clean(b)) {
		t.Errorf("Patch: %d runs", len(got))
	}
	if got := view.Cut(pieces, 1, long-1); !exactRuns(got, list(text(strings.Repeat("é", long-2), bold))) {
		t.Errorf("Cut: %d runs", len(got))
	}
}
