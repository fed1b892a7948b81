package view_test

import (
	"math"
	"slices"
	"strings"
	"testing"

	"quire/api"
	"quire/view"
)

func checkClean(t *testing.T, l, want []api.Run) {
	t.Helper()
	if got := clean(t, l); !exactRuns(got, want) {
		t.Errorf("Clean(%v): %v, not %v", l, got, want)
	}
	if got := clean(t, want); !exactRuns(got, want) {
		t.Errorf("Clean(%v) isn't itself: %v", want, got)
	}
}

func TestP14_2CleanTextsWithoutRunes(t *testing.T) {
	checkClean(t, nil, nil)
	checkClean(t, []api.Run{}, nil)
	checkClean(t, list(text("")), nil)
	checkClean(t, list(text(""), text("", bold), text("")), nil)
	checkClean(t, list(text(""), text("a")), list(text("a")))
	checkClean(t, list(text("a"), text("")), list(text("a")))
	checkClean(t, list(text("a"), text(""), text("b")), list(text("ab")))
	checkClean(t, list(text("", bold), text("a"), text("", bold), text("", high), text("b"), text("", bold)), list(text("ab"))) // they keep none apart
	checkClean(t, list(text(""), embed(null), text(""), embed(null), text("", bold)), list(embed(null), embed(null)))
	checkClean(t, list(text("a", bold), text(""), text("b")), list(text("a", bold), text("b")))
	for _, s := range wrongTexts() { // what is no text has no runes, not even with what follows it
		checkClean(t, list(text(s)), nil)
		checkClean(t, list(text("a"), text(s, bold), text("b")), list(text("ab")))
	}
	checkClean(t, list(text("\xC3"), text("\xA9")), nil)
}

func TestP14_2CleanJoins(t *testing.T) {
	checkClean(t, list(text("ab")), list(text("ab")))
	checkClean(t, list(text("a"), text("b"), text("c")), list(text("abc")))
	checkClean(t, list(text("a", bold), text("é\U0001F600", bold)), list(text("aé\U0001F600", bold)))
	checkClean(t, list(text("a", bold, high), text("b", bold, high), text("c", bold)), list(text("ab", bold, high), text("c", bold)))
	checkClean(t, list(text("a"), text("b", bold), text("c")), list(text("a"), text("b", bold), text("c")))
	checkClean(t, list(text("a"), text("b"), text("c", bold), text("d", bold), text("e"), text("f")), list(text("ab"), text("cd", bold), text("ef")))
	checkClean(t, list(text("a", bold), text("b", not)), list(text("a", bold), text("b", not)))                                     // a value alone differs
	checkClean(t, list(text("a", bold), text("b", mark("b", boolean(1)))), list(text("a", bold), text("b", mark("b", boolean(1))))) // a key alone
	checkClean(t, list(text("a", bold, high), text("b", high, bold)), list(text("a", bold, high), text("b", high, bold)))           // in order
	checkClean(t, list(text("a", mark("k", float(0))), text("b", mark("k", float(minusZero)))), list(text("a", mark("k", float(0))), text("b", mark("k", float(minusZero)))))
	checkClean(t, list(text("a", mark("k", integer(0))), text("b", mark("k", float(0)))), list(text("a", mark("k", integer(0))), text("b", mark("k", float(0)))))
	checkClean(t, list(text("a", mark("k", null)), text("b")), list(text("a", mark("k", null)), text("b")))
	checkClean(t, list(text("a"), api.Run{Text: "b", Marks: []api.Mark{}}), list(text("ab")))
	long := strings.Repeat("é", api.MaxText)
	checkClean(t, list(text(long), text(long), text("a")), list(text(long+long+"a"))) // no bound on a run's runes
}

func TestP14_2CleanEmbeds(t *testing.T) {
	checkClean(t, list(embed(integer(3))), list(embed(integer(3))))
	checkClean(t, list(embed(null), embed(null), embed(null, bold), embed(null, bold)), list(embed(null), embed(null), embed(null, bold), embed(null, bold)))
	checkClean(t, list(text("a"), embed(words("b")), text("c")), list(text("a"), embed(words("b")), text("c")))
	checkClean(t, list(text("a", bold), embed(null, bold), text("c", bold)), list(text("a", bold), embed(null, bold), text("c", bold)))
	checkClean(t, list(embed(words("")), text("a"), text("b"), embed(null)), list(embed(words("")), text("ab"), embed(null)))
}

// A text's V, an embed's Text are fields that no promise gives a meaning: they are no reason to keep runs apart, and are zero in an answer.
func TestP14_2CleanWhatARunDoesNotUse(t *testing.T) {
	odd := api.Run{Text: "a", V: integer(3)}
	checkClean(t, list(odd, text("b")), list(text("ab")))
	checkClean(t, list(text("b"), odd, odd), list(text("baa")))
	both := api.Run{Text: "abc", Embed: true, V: integer(3)}
	checkClean(t, list(text("x"), both, text("y")), list(text("x"), embed(integer(3)), text("y")))
	checkClean(t, list(api.Run{Text: "\xFF", Embed: true}), list(embed(null)))
	if got := cut(t, list(text("x"), both, odd), 1, 3); !exactRuns(got, list(embed(integer(3)), text("a"))) {
		t.Errorf("%v", got)
	}
}

// No NaN but one is answered, and there is one for all.
func TestP14_2OneNaN(t *testing.T) {
	one := mark("k", floatOf(theNaN))
	for _, bits := range nans() {
		v := floatOf(bits)
		other := mark("k", v)
		l := list(text("a", one), text("b", other), embed(v, other), embed(v), text("c", other, bold))
		want := list(text("ab", one), embed(one.V, one), embed(one.V), text("c", one, bold))
		checkClean(t, l, want)
		if got := cut(t, l, 1, 9); !exactRuns(got, slices.Concat(list(text("b", one)), want[1:])) {
			t.Errorf("%X: Cut: %v", bits, got)
		}
		if got := patch(t, list(text("x")), 0, 0, l); !exactRuns(got, slices.Concat(want, list(text("x")))) {
			t.Errorf("%X: Patch: %v", bits, got)
		}
		if at, n, got := diff(t, l, want); at != 5 || n != 0 || len(got) != 0 {
			t.Errorf("%X: Diff: %d, %d, %v", bits, at, n, got)
		}
		if _, _, got := diff(t, nil, l); !exactRuns(got, want) {
			t.Errorf("%X: Diff: %v", bits, got)
		}
	}
}

func TestP14_2Cut(t *testing.T) {
	l := list(text("ab"), text(""), text("c"), text("dé", bold), embed(integer(1)), embed(integer(2)), text("\U0001F600g"))
	for _, x := range []struct {
		from, to int
		want     []api.Run
	}{
		{0, 9, list(text("abc"), text("dé", bold), embed(integer(1)), embed(integer(2)), text("\U0001F600g"))},
		{-1, 1, list(text("a"))}, {math.MinInt, 1, list(text("a"))}, {0, 1, list(text("a"))}, {1, 2, list(text("b"))}, {1, 3, list(text("bc"))}, // within a run
		{0, 2, list(text("ab"))}, {2, 3, list(text("c"))}, {0, 3, list(text("abc"))}, {3, 5, list(text("dé", bold))}, // at its edges
		{2, 4, list(text("c"), text("d", bold))}, {4, 5, list(text("é", bold))},
		{5, 6, list(embed(integer(1)))}, {6, 7, list(embed(integer(2)))}, {5, 7, list(embed(integer(1)), embed(integer(2)))}, // around embeds
		{4, 6, list(text("é", bold), embed(integer(1)))}, {6, 8, list(embed(integer(2)), text("\U0001F600"))},
		{8, 9, list(text("g"))}, {8, 10, list(text("g"))}, {7, math.MaxInt, list(text("\U0001F600g"))},
		{9, 9, nil}, {9, 10, nil}, {10, 12, nil}, {math.MaxInt, math.MaxInt, nil}, {math.MaxInt - 1, math.MaxInt, nil},
		{0, 0, nil}, {3, 3, nil}, {4, 4, nil}, {5, 5, nil}, {4, 3, nil}, {6, 5, nil}, {9, 0, nil}, {math.MaxInt, math.MinInt, nil},
		{-2, -1, nil}, {-1, 0, nil}, {0, -1, nil}, {0, math.MinInt, nil}, {5, math.MinInt, nil}, {math.MinInt, math.MinInt, nil}, {math.MinInt, 0, nil}, {math.MinInt, -1, nil},
	} {
		if got := cut(t, l, x.from, x.to); !exactRuns(got, x.want) {
			t.Errorf("Cut from %d to %d: %v, not %v", x.from, x.to, got, x.want)
		}
	}
	if got := cut(t, l, math.MinInt, math.MaxInt); !exactRuns(got, clean(t, l)) {
		t.Errorf("Cut of all: %v", got)
	}
	if got := cut(t, nil, 0, 9); len(got) != 0 {
		t.Errorf("Cut of none: %v", got)
	}
}

// edges: numbers in, at and around what a list of so many units has, and far off.
func edges(n int) []int {
	l := []int{math.MinInt, math.MinInt + 1, -1 << 32, math.MaxInt, math.MaxInt - 1, 1 << 32}
	for i := -2; i <= n+2; i++ {
		l = append(l, i)
	}
	return l
}

// someLists: with texts of none, one, several runes of all widths, embeds, marks.
func someLists() [][]api.Run {
	return [][]api.Run{
		nil, list(text("")), list(text("", bold), text("")), list(text("\xFF")),
		list(text("a")), list(text("ab")), list(text("abc")), list(text("axc")), list(text("aab")), list(text("aa")), list(text("aaa")), list(text("a"), text("b")), list(text("a"), text(""), text("b")),
		list(text("b")), list(text("ba")), list(text("aba")), list(text("ababa")), list(text("bab"), text("", bold)),
		list(text("a", bold)), list(text("ab", bold)), list(text("a"), text("b", bold)), list(text("a", bold), text("b")), list(text("a", not)), list(text("a", high)), list(text("a", bold, high)), list(text("a", high, bold)),
		list(text("a", mark("k", float(0)))), list(text("a", mark("k", float(minusZero)))), list(text("a", mark("k", floatOf(theNaN)))), list(text("a", mark("k", floatOf(theNaN+1)))),
		list(embed(null)), list(embed(null), embed(null)), list(embed(null), embed(null), embed(null)), list(embed(integer(1))), list(embed(integer(2))), list(embed(null, bold)), list(embed(null), embed(integer(1))),
		list(text("\uFFFC")), list(text("\uFFFD")), list(text("\uFFFD\uFFFD")), list(text("\x00")),
		list(embed(float(0))), list(embed(float(minusZero))), list(embed(floatOf(theNaN))), list(embed(floatOf(0xFFF8000000000000))),
		list(text("a"), embed(null), text("b")), list(text("a"), embed(null)), list(embed(null), text("b")), list(text("a"), embed(null, bold), text("b")), list(text("a"), embed(null), embed(null), text("b")),
		list(text("é")), list(text("è")), list(text("ê\u20AC")), list(text("é\u20AC\U0001F600")), list(text("\U0001F600")), list(text("\U0001F601")), list(text("\U0001F400")), list(text("a\U0001F600b")), // some have bytes in common, and no rune
		list(text("ab", bold), text("cd"), embed(integer(1), bold), text("ab", bold)), list(text("ab", bold), text("c"), text("d", bold), embed(integer(1), bold), text("b", bold)),
		list(text("a", bold), text("\xC3"), text("b", bold), api.Run{Text: "x", Embed: true}, api.Run{Text: "y", V: integer(1)}),
	}
}

func TestP14_2CutAndPatchEverywhere(t *testing.T) {
	for i, a := range someLists() {
		b := someLists()[(i*7+3)%len(someLists())]
		numbers := edges(view.Len(looks(a...)))
		for _, from := range numbers {
			for _, to := range numbers {
				checkLists(t, a, b, from, to)
			}
		}
	}
}

func TestP14_2Patch(t *testing.T) {
	a := list(text("ab"), text("cd", bold), embed(integer(1)), text("e"))
	asItWas := list(text("ab"), text("cd", bold), embed(integer(1)), text("e"))
	x := list(text("x"))
	for _, c := range []struct {
		at, n int
		l     []api.Run
		want  []api.Run
	}{
		{0, 0, nil, asItWas}, {3, 0, nil, asItWas}, {5, 0, list(text("", bold)), asItWas}, {6, 0, nil, asItWas}, {-5, -5, nil, asItWas}, // nothing changes
		{-1, -1, x, list(text("xab"), text("cd", bold), embed(integer(1)), text("e"))},
		{math.MinInt, math.MinInt, x, list(text("xab"), text("cd", bold), embed(integer(1)), text("e"))},
		{-3, 1, x, list(text("xb"), text("cd", bold), embed(integer(1)), text("e"))}, // n counts from 0 on then
		{6, 0, x, list(text("ab"), text("cd", bold), embed(integer(1)), text("ex"))},
		{7, 1, x, list(text("ab"), text("cd", bold), embed(integer(1)), text("ex"))},
		{math.MaxInt, math.MaxInt, x, list(text("ab"), text("cd", bold), embed(integer(1)), text("ex"))},
		{2, -1, x, list(text("abx"), text("cd", bold), embed(integer(1)), text("e"))},
		{2, math.MinInt, x, list(text("abx"), text("cd", bold), embed(integer(1)), text("e"))},
		{2, math.MaxInt, x, list(text("abx"))}, {1, math.MaxInt - 1, nil, list(text("a"))}, {2, 5, x, list(text("abx"))}, {2, 4, x, list(text("abx"))}, {2, 3, x, list(text("abxe"))},
		{0, 6, nil, nil}, {0, 9, x, x}, {0, 5, nil, list(text("e"))}, {4, 1, nil, list(text("ab"), text("cd", bold), text("e"))},
		{1, 4, nil, list(text("ae"))}, // what is ahead and what is behind join
		{1, 4, list(text("x"), text("y")), list(text("axye"))}, {1, 2, list(text("x", bold)), list(text("a"), text("xd", bold), embed(integer(1)), text("e"))},
		{1, 1, list(text("y"), text("z", bold)), list(text("ay"), text("zcd", bold), embed(integer(1)), text("e"))},
		{3, 0, list(text("x", bold)), list(text("ab"), text("cxd", bold), embed(integer(1)), text("e"))}, {3, 0, x, list(text("ab"), text("c", bold), text("x"), text("d", bold), embed(integer(1)), text("e"))},
		{4, 1, list(embed(integer(2)), embed(integer(1))), list(text("ab"), text("cd", bold), embed(integer(2)), embed(integer(1)), text("e"))},
		{5, 0, list(embed(integer(1)), text("", bold)), list(text("ab"), text("cd", bold), embed(integer(1)), embed(integer(1)), text("e"))},
	} {
		if got := patch(t, a, c.at, c.n, c.l); !exactRuns(got, c.want) {
			t.Errorf("Patch at %d of %d by %v: %v, not %v", c.at, c.n, c.l, got, c.want)
		}
	}
	if got := patch(t, nil, 3, 3, list(text("x"), text("y"))); !exactRuns(got, list(text("xy"))) {
		t.Errorf("Patch of none: %v", got)
	}
	if got := patch(t, list(text("a"), text("b")), 1, 0, nil); !exactRuns(got, list(text("ab"))) {
		t.Errorf("Patch by none: %v", got)
	}
}

// One list handed in twice, or lists that lie in one another, are taken as any others.
func TestP14_2SharedArguments(t *testing.T) {
	l := handedRuns(list(text("ab", bold), embed(integer(1)), text("c")))
	if got := view.Patch(l[:2], 1, 1, l); !exactRuns(got, list(text("aab", bold), embed(integer(1)), text("c"), embed(integer(1)))) {
		t.Errorf("%v", got)
	}
	if at, n, got := view.Diff(l, l[:2]); at != 3 || n != 1 || len(got) != 0 {
		t.Errorf("%d, %d, %v", at, n, got)
	}
	checkLeft(t, l, list(text("ab", bold), embed(integer(1)), text("c")))
}
