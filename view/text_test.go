package view_test

import (
	"math"
	"strings"
	"testing"

	"quire/api"
	"quire/utf"
	"quire/view"
)

func checkText(t *testing.T, v api.View, want string) {
	t.Helper()
	if got := ask(t, v, view.Text); got != want {
		t.Errorf("%v:\n%s\nnot\n%s", v, got, want)
	}
}

func TestP14_1Example(t *testing.T) {
	checkText(t, looks(text("ab", bold), embed(integer(3))), "t \"ab\" \"bold\"=true\ne 3\n")
}

func TestP14_1TextOfRuns(t *testing.T) {
	checkText(t, api.View{}, "")
	checkText(t, api.View{Runs: []api.Run{}, Map: []api.Entry{}}, "")
	checkText(t, looks(text("ab")), "t \"ab\"\n")
	checkText(t, looks(text("ab", bold, high)), "t \"ab\" \"bold\"=true \"high\"=2\n")
	checkText(t, looks(text("ab", high, bold, bold)), "t \"ab\" \"high\"=2 \"bold\"=true \"bold\"=true\n") // as they stand
	checkText(t, looks(embed(integer(3))), "e 3\n")
	checkText(t, looks(embed(integer(3), not)), "e 3 \"bold\"=false\n")
	checkText(t, looks(embed(words("x y"), not, high, mark("s", words("v")))), "e \"x y\" \"bold\"=false \"high\"=2 \"s\"=\"v\"\n")
	checkText(t, looks(text("a"), text("b"), embed(null), embed(null), text("c")), "t \"a\"\nt \"b\"\ne null\ne null\nt \"c\"\n") // not joined
	checkText(t, looks(text(""), text("", bold)), "t \"\"\nt \"\" \"bold\"=true\n")
	checkText(t, looks(text("é\u20AC\U0001F600")), "t \"é\u20AC\U0001F600\"\n")
	checkText(t, looks(text("a", mark("", null))), "t \"a\" \"\"=null\n")
}

// Nothing of a text is told but its text, nothing of an embed but its value, with their marks.
func TestP14_1TextOfWhatARunDoesNotUse(t *testing.T) {
	checkText(t, looks(api.Run{Text: "a", V: integer(3)}, api.Run{Text: "a", Embed: true, V: integer(3)}), "t \"a\"\ne 3\n")
}

func TestP14_1TextQuotes(t *testing.T) {
	checkText(t, looks(text(`a"b\`, mark(`k"`, words(`\"`)), mark(`\`, words("")))), `t "a\"b\\" "k\""="\\\"" "\\"=""`+"\n")
	checkText(t, looks(embed(words(`"`))), `e "\""`+"\n")
	checkText(t, mapped(entry(`"\`, words(`\`), entry(`\\"`, null))), `m "\"\\"="\\"`+"\n"+`  m "\\\\\""=null`+"\n")
	checkText(t, looks(text("\x00\n\t\r\x1F\x7F\u0085\u2028", mark("\n", words("\x00")))), "t \"\x00\n\t\r\x1F\x7F\u0085\u2028\" \"\n\"=\"\x00\"\n")
	checkText(t, mapped(entry("\n  m", words("\n"))), "m \"\n  m\"=\"\n\"\n")
	for _, s := range wrongTexts() {
		checkText(t, api.View{Runs: list(text(s, mark(s, words(s)))), Map: []api.Entry{entry(s, words(s))}}, `t "`+s+`" "`+s+`"="`+s+"\"\nm \""+s+`"="`+s+"\"\n")
	}
}

func TestP14_1TextLongerThanATextValue(t *testing.T) {
	for _, n := range []int{api.MaxString, api.MaxString + 1, 9 * api.MaxString} {
		long := strings.Repeat("a", n)
		checkText(t, looks(text(long), text("é"+long, mark(long, words(long)))), `t "`+long+"\"\nt \"é"+long+`" "`+long+`"="`+long+"\"\n")
		checkText(t, looks(text(strings.Repeat(`"`, n))), `t "`+strings.Repeat(`\"`, n)+"\"\n")
		checkText(t, mapped(entry(long, words(long))), `m "`+long+`"="`+long+"\"\n")
	}
}

func TestP14_1TextOfValues(t *testing.T) {
	type row struct {
		v    api.Value
		want string
	}
	l := []row{
		{null, "null"}, {aMap, "map"}, {boolean(0), "false"}, {boolean(1), "true"},
		{integer(0), "0"}, {integer(-1), "-1"}, {integer(math.MaxInt64), "9223372036854775807"}, {integer(math.MinInt64), "-9223372036854775808"},
		{float(0), "f0000000000000000"}, {float(minusZero), "f8000000000000000"}, {float(1), "f3ff0000000000000"},
		{float(math.Inf(1)), "f7ff0000000000000"}, {float(math.Inf(-1)), "ffff0000000000000"},
		{words(""), `""`}, {words("null"), `"null"`},
	}
	for _, bits := range nans() {
		l = append(l, row{floatOf(bits), "f7ff8000000000000"})
	}
	for _, x := range l {
		checkText(t, looks(embed(x.v)), "e "+x.want+"\n")
		checkText(t, looks(embed(x.v, mark("k", x.v))), "e "+x.want+" \"k\"="+x.want+"\n")
		checkText(t, looks(text("a", mark("k", x.v), bold)), "t \"a\" \"k\"="+x.want+" \"bold\"=true\n")
		checkText(t, mapped(entry("k", x.v), entry("m", aMap, entry("k", x.v))), "m \"k\"="+x.want+"\nm \"m\"=map\n  m \"k\"="+x.want+"\n")
	}
}

func TestP14_1TextOfMaps(t *testing.T) {
	v := mapped(
		entry("a", integer(1)),
		entry("b", aMap,
			entry("c", aMap, entry("d", aMap), entry("e", integer(2))),
			entry("f", aMap, entry("g", integer(3))),
			entry("h", null)),
		entry("i", aMap),
		entry("j", integer(4)))
	checkText(t, v, `m "a"=1
m "b"=map
  m "c"=map
    m "d"=map
    m "e"=2
  m "f"=map
    m "g"=3
  m "h"=null
m "i"=map
m "j"=4
`)
	v.Runs = list(text("x"), embed(null))
	checkText(t, v, "t \"x\"\ne null\n"+view.Text(mapped(v.Map...)))                                                              // runs first
	checkText(t, mapped(entry("b", null), entry("a", null), entry("a", null)), "m \"b\"=null\nm \"a\"=null\nm \"a\"=null\n")      // as they stand
	checkText(t, mapped(entry("k", integer(1), entry("x", null)), entry("l", null)), "m \"k\"=1\n  m \"x\"=null\nm \"l\"=null\n") // Kids are told, whatever V is
}

func TestP14_1TextOfDeepMaps(t *testing.T) {
	const deep = 1500
	var want strings.Builder
	for n := range deep {
		want.WriteString(strings.Repeat("  ", n) + "m \"k\"=map\n")
	}
	l := []api.Entry{entry("k", aMap)}
	for range deep - 1 {
		l = []api.Entry{entry("k", aMap, l...)}
	}
	if got := view.Text(mapped(l...)); got != want.String() {
		t.Errorf("%d bytes, not %d", len(got), want.Len())
	}
}

func TestP14_1PlainAndLen(t *testing.T) {
	for _, x := range []struct {
		v    api.View
		want string
	}{
		{api.View{}, ""}, {looks(text("")), ""}, {looks(text("", bold), text("")), ""},
		{looks(text("ab")), "ab"}, {looks(text("ab", bold), text(""), text("c")), "abc"},
		{looks(embed(null)), "\uFFFC"}, {looks(embed(words("abc"), bold), embed(words("abc"))), "\uFFFC\uFFFC"},
		{looks(text("a"), embed(integer(3)), text("b")), "a\uFFFCb"},
		{looks(text("\x00\x7F\u0080\u07FF\u0800\uFFFC\uFFFD\uFFFF\U00010000\U0010FFFF")), "\x00\x7F\u0080\u07FF\u0800\uFFFC\uFFFD\uFFFF\U00010000\U0010FFFF"},
		{looks(text("\uD7FF\uE000"), text("e\u0301"), text(`"\`)), "\uD7FF\uE000e\u0301\"\\"},
		{looks(api.Run{Embed: true, Text: "abc"}, api.Run{Text: "d", V: words("abc")}), "\uFFFCd"},
		{looks(text("a"), text("b\xFF"), text("\xC3"), text("\xA9"), text("c")), "ac"}, // what is no text has no runes
		{mapped(entry("k", words("v"), entry("l", words("w")))), ""},
		{api.View{Runs: list(text("a")), Map: []api.Entry{entry("k", words("v"))}}, "a"},
		{looks(text(strings.Repeat("é", 3*api.MaxText)), embed(null)), strings.Repeat("é", 3*api.MaxText) + "\uFFFC"},
	} {
		if got := ask(t, x.v, view.Plain); got != x.want {
			t.Errorf("Plain of %v: %q, not %q", x.v, got, x.want)
		}
		if got := ask(t, x.v, view.Len); got != utf.Len(x.want) {
			t.Errorf("Len of %v: %d, not %d", x.v, got, utf.Len(x.want))
		}
	}
	if n := view.Len(looks(text("\U0001F600b"), embed(null))); n != 3 {
		t.Errorf("Len: %d", n)
	}
}

// unlike: views each of which is unlike all others.
func unlike() []api.View {
	l := []api.View{
		{}, looks(text("")), looks(text("a")), looks(text("b")), looks(text("a"), text("")), looks(text("ab")), looks(text("a"), text("b")), looks(text("b"), text("a")), looks(text("e 3")),
		looks(text("a", bold)), looks(text("a", not)), looks(text("a", mark("bold", integer(1)))), looks(text("a", mark("Bold", boolean(1)))), looks(text("a", bold, high)), looks(text("a", high, bold)), looks(text("a", bold), text("b")), looks(text("a"), text("b", bold)),
		looks(embed(null)), looks(embed(integer(3))), looks(embed(integer(4))), looks(embed(integer(3), bold)), looks(embed(integer(3)), embed(integer(3))),
		looks(embed(float(0))), looks(embed(float(minusZero))), looks(embed(floatOf(theNaN))), looks(embed(integer(0))), looks(embed(words("0"))), looks(embed(boolean(0))),
		looks(text("a", mark("k", float(0)))), looks(text("a", mark("k", float(minusZero)))), looks(text("\uFFFC")),
		mapped(entry("k", null)), mapped(entry("l", null)), mapped(entry("k", integer(1))), mapped(entry("k", integer(1)), entry("k", integer(1))), mapped(entry("k", aMap)), mapped(entry("", null)),
		mapped(entry("k", aMap, entry("x", integer(1)))), mapped(entry("k", aMap, entry("x", integer(2)))), mapped(entry("k", aMap, entry("y", integer(1)))), mapped(entry("k", aMap), entry("x", integer(1))),
		mapped(entry("k", aMap, entry("x", aMap, entry("z", null)))), mapped(entry("k", aMap, entry("x", aMap), entry("z", null))), mapped(entry("k", aMap, entry("x", aMap)), entry("z", null)),
		{Runs: list(text("a")), Map: []api.Entry{entry("k", null)}},
		looks(text("a\"\nt \"b")), looks(text("a\\\"\nt \\\"b")), looks(text("a\" \"bold\"=true")), mapped(entry("k\"=null\nm \"l", null)), mapped(entry("k", null), entry("l", null)), // what tells of more lines isn't those lines
	}
	return l
}

func TestP14_1Same(t *testing.T) {
	l := unlike()
	for i, a := range l {
		for k, b := range l {
			got := ask(t, a, func(a api.View) bool {
				return ask(t, b, func(b api.View) bool { return view.Same(a, b) })
			})
			if got != (i == k) {
				t.Errorf("Same(%v, %v): %t", a, b, got)
			}
			if got != (view.Text(a) == view.Text(b)) {
				t.Errorf("Same(%v, %v): %t, unlike their texts", a, b, got)
			}
		}
	}
}

// Same asks for the text alone: what isn't told there is no difference.
func TestP14_1SameByText(t *testing.T) {
	for _, x := range [][2]api.View{
		{{}, {Runs: []api.Run{}, Map: []api.Entry{}}},
		{looks(api.Run{Text: "a"}), looks(api.Run{Text: "a", Marks: []api.Mark{}, V: integer(3)})},
		{looks(embed(integer(3))), looks(api.Run{Text: "a", Embed: true, V: integer(3)})},
		{looks(embed(floatOf(theNaN))), looks(embed(floatOf(0xFFF0000000000001)))},
		{looks(embed(boolean(1))), looks(embed(boolean(2)))},
		{looks(embed(integer(1))), looks(embed(api.Value{Kind: api.ValInt, N: 1, S: "x"}))},
		{mapped(entry("k", aMap)), mapped(api.Entry{Key: "k", V: aMap, Kids: []api.Entry{}})},
	} {
		if !view.Same(x[0], x[1]) || !view.Same(x[1], x[0]) {
			t.Errorf("%v, %v", x[0], x[1])
		}
	}
}

// Values that there aren't have no promised text; all calls end.
func TestP14_1WrongValuesEnd(t *testing.T) {
	for _, v := range []api.Value{{Kind: -1}, {Kind: 6}, {Kind: math.MaxInt, N: 4}, boolean(7), {Kind: api.ValNull, S: "x"}} {
		x := api.View{Runs: list(embed(v, mark("k", v)), text("a", mark("k", v))), Map: []api.Entry{entry("k", v, entry("l", v))}}
		if !view.Same(x, x) || view.Len(x) != 2 || view.Plain(x) != "\uFFFCa" || strings.Count(view.Text(x), "\n") != 4 {
			t.Errorf("%v: %q", v, view.Text(x))
		}
	}
}
