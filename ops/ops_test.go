package ops_test

import (
	"math"
	"slices"
	"strings"
	"testing"

	"quire/api"
	"quire/ops"
	"quire/value"
)

func id(client, clock uint64) api.Id { return api.Id{Client: client, Clock: clock} }

func text(client, clock uint64, left, right api.Id, s string) api.Op {
	return api.Op{Id: id(client, clock), Kind: api.OpText, Left: left, Right: right, Text: s}
}

func embed() api.Op {
	return api.Op{Id: id(3, 5), Kind: api.OpEmbed, Left: id(1, 1), Right: id(2, 2), V: api.Value{Kind: api.ValText, S: "v"}}
}

func mark() api.Op {
	return api.Op{Id: id(3, 5), Kind: api.OpMark, Stamp: 4, Key: "k", V: api.Value{Kind: api.ValInt, N: 3}, From: api.Anchor{Id: id(1, 1)}, To: api.Anchor{Id: id(2, 2), After: true}}
}

func set() api.Op {
	return api.Op{Id: id(3, 5), Kind: api.OpSet, Stamp: 4, Key: "k", V: api.Value{Kind: api.ValMap}, Parent: id(2, 2)}
}

// kinds: a right one of each kind, with all its fields set.
func kinds() []api.Op {
	return []api.Op{text(3, 5, id(1, 1), id(2, 2), "ab"), embed(), mark(), set()}
}

// with: o, changed by f.
func with(o api.Op, f func(o *api.Op)) api.Op {
	f(&o)
	return o
}

func checkRight(t *testing.T, what string, o api.Op, right bool) {
	t.Helper()
	want := api.ErrOpForm
	if right {
		want = api.OK
	}
	if got := ops.Check(o); got != want {
		t.Errorf("Check of kind %d, %s: %v, not %v", o.Kind, what, got, want)
	}
}

func TestP8_1RightOnes(t *testing.T) {
	for _, o := range kinds() {
		checkRight(t, "all fields", o, true)
		bare := api.Op{Id: o.Id, Kind: o.Kind, Stamp: o.Stamp, Text: o.Text, Key: o.Key}
		checkRight(t, "no ids, no value", bare, true)
	}
	checkRight(t, "zeros", api.Op{}, false)
}

func TestP8_1Ids(t *testing.T) {
	for _, o := range kinds() {
		for _, x := range []struct {
			client, clock uint64
			right         bool
		}{
			{1, 3, true}, {4, 1, true}, {top, 1, true}, {4, top - 1, true},
			{0, 0, false}, {0, 1, false}, {1, 0, false}, {top + 1, 1, false}, {4, top + 1, false},
			{math.MaxUint64, 1, false}, {4, math.MaxUint64, false}, {4, math.MaxUint64 - 1, false},
		} {
			o.Id = id(x.client, x.clock)
			checkRight(t, "Id", o, x.right)
		}
		o.Id = id(4, top)
		checkRight(t, "Id of the last clock", o, o.Kind != api.OpText)
	}
}

func TestP8_1LastClock(t *testing.T) {
	long := strings.Repeat("é", api.MaxText)
	for _, x := range []struct {
		clock uint64
		s     string
		right bool
	}{
		{top, "a", true}, {top, "é", true}, {top, "ab", false}, {top - 1, "ab", true}, {top - 1, "abc", false},
		{top + 1 - api.MaxText, long, true}, {top + 2 - api.MaxText, long, false},
	} {
		checkRight(t, "last clock", text(top, x.clock, id(1, 1), api.Id{}, x.s), x.right)
	}
}

func TestP8_1Kinds(t *testing.T) {
	for _, o := range kinds() {
		for _, kind := range []int{math.MinInt, -1, 0, 5, 6, 256 + o.Kind, math.MaxInt} {
			o.Kind = kind
			checkRight(t, "no kind", o, false)
		}
	}
	for _, kind := range []int{-1, 0, 5} {
		checkRight(t, "no kind, no fields", api.Op{Id: id(1, 1), Kind: kind}, false)
	}
	for _, o := range kinds() {
		for _, other := range kinds() {
			was := o.Kind
			checkRight(t, "another kind's fields", with(o, func(o *api.Op) { o.Kind = other.Kind }), was == other.Kind)
		}
	}
}

func TestP8_1FieldsThatTheKindDoesNotUse(t *testing.T) {
	type field struct {
		name string
		used []int
		set  func(o *api.Op)
	}
	fields := []field{
		{"Stamp", []int{api.OpMark, api.OpSet}, func(o *api.Op) { o.Stamp = 1 }},
		{"Left", []int{api.OpText, api.OpEmbed}, func(o *api.Op) { o.Left = id(9, 9) }},
		{"Right", []int{api.OpText, api.OpEmbed}, func(o *api.Op) { o.Right = id(9, 9) }},
		{"Text", []int{api.OpText}, func(o *api.Op) { o.Text = "t" }},
		{"Key", []int{api.OpMark, api.OpSet}, func(o *api.Op) { o.Key = "q" }},
		{"Parent", []int{api.OpSet}, func(o *api.Op) { o.Parent = id(9, 9) }},
		{"From", []int{api.OpMark}, func(o *api.Op) { o.From.Id = id(9, 9) }},
		{"To", []int{api.OpMark}, func(o *api.Op) { o.To.Id = id(9, 9) }},
		{"From.After", []int{api.OpMark}, func(o *api.Op) { o.From.After = true }},
		{"To.After", []int{api.OpMark}, func(o *api.Op) { o.To.After = true }},
	}
	for _, v := range []api.Value{{Kind: api.ValBool, N: 1}, {Kind: api.ValInt}, {Kind: api.ValFloat, F: 1}, {Kind: api.ValText, S: "s"}} {
		fields = append(fields, field{"V", []int{api.OpEmbed, api.OpMark, api.OpSet}, func(o *api.Op) { o.V = v }})
	}
	for _, v := range []api.Value{{N: 1}, {F: 1}, {F: math.Copysign(0, -1)}, {F: math.NaN()}, {S: "s"}, {Kind: -1}, {Kind: 6}} {
		fields = append(fields, field{"V that is none", nil, func(o *api.Op) { o.V = v }})
	}
	for _, o := range kinds() {
		for _, f := range fields {
			checkRight(t, f.name, with(o, f.set), slices.Contains(f.used, o.Kind))
		}
	}
}

// named: of each kind each id that it may name, as a function that lays it.
func named() map[int][]func(o *api.Op, x api.Id) {
	left := func(o *api.Op, x api.Id) { o.Left = x }
	right := func(o *api.Op, x api.Id) { o.Right = x }
	return map[int][]func(o *api.Op, x api.Id){
		api.OpText:  {left, right},
		api.OpEmbed: {left, right},
		api.OpMark:  {func(o *api.Op, x api.Id) { o.From.Id = x }, func(o *api.Op, x api.Id) { o.To.Id = x }},
		api.OpSet:   {func(o *api.Op, x api.Id) { o.Parent = x }},
	}
}

func TestP8_1NamedIds(t *testing.T) {
	for _, o := range kinds() {
		for _, lay := range named()[o.Kind] {
			for _, x := range []struct {
				id    api.Id
				right bool
			}{
				{id(0, 0), true}, {id(1, 1), true}, {id(top, top), true}, {id(1, top), true}, {id(top, 1), true},
				{id(0, 1), false}, {id(1, 0), false}, {id(0, top), false}, {id(top, 0), false},
				{id(top+1, 1), false}, {id(1, top+1), false}, {id(math.MaxUint64, 1), false}, {id(1, math.MaxUint64), false},
			} {
				checkRight(t, "an id that it names", with(o, func(o *api.Op) { lay(o, x.id) }), x.right)
			}
		}
	}
}

func TestP8_1OwnClocks(t *testing.T) {
	for _, o := range kinds() {
		n := uint64(1)
		if o.Kind == api.OpText {
			o.Text, n = "aé\U0001F600d", 4
		}
		for _, lay := range named()[o.Kind] {
			for clock := o.Id.Clock - 2; clock < o.Id.Clock+n+2; clock++ {
				own := clock >= o.Id.Clock && clock < o.Id.Clock+n
				checkRight(t, "its own client's id", with(o, func(o *api.Op) { lay(o, id(o.Id.Client, clock)) }), !own)
				checkRight(t, "another client's id", with(o, func(o *api.Op) { lay(o, id(o.Id.Client+1, clock)) }), true)
			}
		}
	}
	checkRight(t, "the last of its own", text(1, top-1, id(1, top), api.Id{}, "ab"), false)
	checkRight(t, "the last ahead", text(1, top, id(1, top-1), api.Id{}, "a"), true)
}

func wrongTexts() []string {
	return []string{"\xFF", "a\x80", "\x80a", "\xC3", "\xE2\x82", "\xC0\x80", "\xE0\x9F\xBF", "\xED\xA0\x80", "\xED\xBF\xBF", "\xF4\x90\x80\x80", "\xF5\x80\x80\x80"}
}

func TestP8_1Texts(t *testing.T) {
	o := text(1, 1, api.Id{}, api.Id{}, "")
	checkRight(t, "no rune", o, false)
	for _, r := range []string{"a", "\x00", "é", "\uFFFD", "\uFFFF", "\U0001F600", "\U0010FFFF"} {
		for n, right := range map[int]bool{1: true, 2: true, api.MaxText - 1: true, api.MaxText: true, api.MaxText + 1: false, 2 * api.MaxText: false} {
			o.Text = strings.Repeat(r, n)
			checkRight(t, "so many runes", o, right)
		}
	}
	for _, s := range wrongTexts() {
		for _, o.Text = range []string{s, "abc" + s, s + "abc", strings.Repeat("a", api.MaxText-1) + s} {
			checkRight(t, "no right UTF-8", o, false)
		}
	}
}

func TestP8_1Keys(t *testing.T) {
	for _, o := range []api.Op{mark(), set()} {
		for _, x := range []struct {
			key   string
			right bool
		}{
			{"", false}, {"k", true}, {"\x00", true}, {"é", true}, {"\U0010FFFF", true},
			{strings.Repeat("k", api.MaxKey), true}, {strings.Repeat("k", api.MaxKey+1), false},
			{strings.Repeat("é", api.MaxKey/2), true}, {strings.Repeat("é", api.MaxKey/2) + "k", false}, {strings.Repeat("\U0001F600", api.MaxKey/4+1), false},
		} {
			o.Key = x.key
			checkRight(t, "Key", o, x.right)
		}
		for _, s := range wrongTexts() {
			for _, o.Key = range []string{s, "k" + s, s + "k"} {
				checkRight(t, "Key of no right UTF-8", o, false)
			}
		}
	}
}

func TestP8_1Values(t *testing.T) {
	for _, o := range []api.Op{embed(), mark(), set()} {
		for _, o.V = range valueEdges() {
			right := value.Check(o.V) == api.OK && (o.V.Kind != api.ValMap || o.Kind == api.OpSet)
			checkRight(t, "V "+value.Text(o.V), o, right)
		}
		o.V = api.Value{Kind: api.ValMap}
		checkRight(t, "a map", o, o.Kind == api.OpSet)
	}
}

func TestP8_1Stamps(t *testing.T) {
	for _, o := range kinds() {
		stamped := o.Kind == api.OpMark || o.Kind == api.OpSet
		for _, x := range []struct {
			stamp uint64
			right bool
		}{
			{0, !stamped}, {1, stamped}, {2, stamped}, {top - 1, stamped}, {top, stamped}, {top + 1, false}, {math.MaxUint64, false},
		} {
			o.Stamp = x.stamp
			checkRight(t, "Stamp", o, x.right)
		}
	}
}

func TestP8_4Needs(t *testing.T) {
	many := api.Op{Id: id(3, 5), Left: id(9, 1), Right: id(8, 2), From: api.Anchor{Id: id(7, 3)}, To: api.Anchor{Id: id(6, 4)}, Parent: id(5, 5)}
	for _, x := range []struct {
		what string
		o    api.Op
		want []api.Id
	}{
		{"none", text(3, 5, api.Id{}, api.Id{}, "a"), nil},
		{"a text", text(3, 5, id(2, 9), id(1, 1), "a"), []api.Id{id(2, 9), id(1, 1)}},
		{"a text, Left alone", text(3, 5, id(2, 9), api.Id{}, "a"), []api.Id{id(2, 9)}},
		{"a text, Right alone", text(3, 5, api.Id{}, id(2, 9), "a"), []api.Id{id(2, 9)}},
		{"a text, Left its own", text(3, 5, id(3, 4), id(2, 9), "a"), []api.Id{id(2, 9)}},
		{"a text, Right its own, of a later clock", text(3, 5, id(2, 9), id(3, 70), "a"), []api.Id{id(2, 9)}},
		{"a text, both its own", text(3, 5, id(3, 1), id(3, 2), "a"), nil},
		{"a text, both alike", text(3, 5, id(2, 9), id(2, 9), "a"), []api.Id{id(2, 9), id(2, 9)}},
		{"an embed", embed(), []api.Id{id(1, 1), id(2, 2)}},
		{"a mark", mark(), []api.Id{id(1, 1), id(2, 2)}},
		{"a mark, turned", with(mark(), func(o *api.Op) { o.From, o.To = o.To, o.From }), []api.Id{id(2, 2), id(1, 1)}},
		{"a mark, at the ends", with(mark(), func(o *api.Op) { o.From, o.To = api.Anchor{}, api.Anchor{After: true} }), nil},
		{"a set", set(), []api.Id{id(2, 2)}},
		{"a set in the root", with(set(), func(o *api.Op) { o.Parent = api.Id{} }), nil},
		{"a set in its own map", with(set(), func(o *api.Op) { o.Parent = id(3, 1) }), nil},
		{"all of them", many, []api.Id{id(9, 1), id(8, 2), id(7, 3), id(6, 4), id(5, 5)}},
		{"half zeros", text(3, 5, id(0, 2), id(2, 0), "a"), []api.Id{id(0, 2), id(2, 0)}},
		{"zeros", api.Op{}, nil},
	} {
		if got := ops.Needs(x.o); !slices.Equal(got, x.want) {
			t.Errorf("Needs, %s: %v, not %v", x.what, got, x.want)
		}
	}
}

func TestP8_4SameButForOneField(t *testing.T) {
	changes := map[string]func(o *api.Op){
		"Id.Client":      func(o *api.Op) { o.Id.Client++ },
		"Id.Clock":       func(o *api.Op) { o.Id.Clock++ },
		"Kind":           func(o *api.Op) { o.Kind++ },
		"Stamp":          func(o *api.Op) { o.Stamp++ },
		"Left.Client":    func(o *api.Op) { o.Left.Client++ },
		"Left.Clock":     func(o *api.Op) { o.Left.Clock++ },
		"Right.Client":   func(o *api.Op) { o.Right.Client++ },
		"Right.Clock":    func(o *api.Op) { o.Right.Clock++ },
		"Text":           func(o *api.Op) { o.Text += "x" },
		"V.Kind":         func(o *api.Op) { o.V.Kind++ },
		"V.N":            func(o *api.Op) { o.V.N++ },
		"V.F":            func(o *api.Op) { o.V.F++ },
		"V.F, a nought":  func(o *api.Op) { o.V.F = math.Copysign(0, -1) },
		"V.F, NaN":       func(o *api.Op) { o.V.F = math.NaN() },
		"V.S":            func(o *api.Op) { o.V.S += "x" },
		"Key":            func(o *api.Op) { o.Key += "x" },
		"Parent.Client":  func(o *api.Op) { o.Parent.Client++ },
		"Parent.Clock":   func(o *api.Op) { o.Parent.Clock++ },
		"From.Id.Client": func(o *api.Op) { o.From.Id.Client++ },
		"From.Id.Clock":  func(o *api.Op) { o.From.Id.Clock++ },
		"From.After":     func(o *api.Op) { o.From.After = !o.From.After },
		"To.Id.Client":   func(o *api.Op) { o.To.Id.Client++ },
		"To.Id.Clock":    func(o *api.Op) { o.To.Id.Clock++ },
		"To.After":       func(o *api.Op) { o.To.After = !o.To.After },
	}
	for _, o := range append(kinds(), api.Op{}) {
		if !ops.Same(o, o) {
			t.Errorf("kind %d isn't like itself", o.Kind)
		}
		for name, change := range changes {
			other := with(o, change)
			if ops.Same(o, other) || ops.Same(other, o) {
				t.Errorf("kind %d is the same with another %s", o.Kind, name)
			}
		}
	}
}

func TestP8_4SameNaNs(t *testing.T) {
	bits := []uint64{theNaN, theNaN + 1, 0x7FF0000000000001, 0x7FFFFFFFFFFFFFFF, 0xFFF8000000000000, 0xFFFFFFFFFFFFFFFF}
	for _, o := range kinds() {
		for _, a := range bits {
			for _, b := range bits {
				x := with(o, func(o *api.Op) { o.V = nanOf(a) })
				y := with(o, func(o *api.Op) { o.V = nanOf(b) })
				if !ops.Same(x, y) {
					t.Errorf("kind %d: NaNs %x and %x are unlike", o.Kind, a, b)
				}
				y.Stamp++
				if ops.Same(x, y) {
					t.Errorf("kind %d: another Stamp beside NaNs is the same", o.Kind)
				}
			}
			x := with(o, func(o *api.Op) { o.V = nanOf(a) })
			y := with(o, func(o *api.Op) { o.V = api.Value{Kind: api.ValFloat, F: math.Inf(1)} })
			if ops.Same(x, y) || ops.Same(y, x) {
				t.Errorf("kind %d: NaN %x and infinity are the same", o.Kind, a)
			}
		}
	}
}
