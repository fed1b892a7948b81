package ops_test

import (
	"fmt"
	"math"
	"math/rand"
	"slices"
	"strings"
	"testing"

	"quire/api"
	"quire/ops"
)

func TestP8_3Fits(t *testing.T) {
	a, b := text(3, 5, id(1, 1), id(2, 2), "é\U0001F600"), text(3, 7, id(3, 6), id(2, 2), "c")
	for _, x := range []struct {
		what string
		a, b api.Op
		want bool
	}{
		{"fits", a, b, true},
		{"turned", b, a, false},
		{"itself", a, a, false},
		{"a at the beginning", with(a, func(o *api.Op) { o.Left = api.Id{} }), b, true},
		{"a's Left is a's own business", with(a, func(o *api.Op) { o.Left = id(3, 4) }), b, true},
		{"no Rights", with(a, func(o *api.Op) { o.Right = api.Id{} }), with(b, func(o *api.Op) { o.Right = api.Id{} }), true},
		{"a longer b", a, with(b, func(o *api.Op) { o.Text = "cde" }), true},
		{"a is an embed", with(a, func(o *api.Op) { o.Kind = api.OpEmbed }), b, false},
		{"b is an embed", a, with(b, func(o *api.Op) { o.Kind, o.Text = api.OpEmbed, "" }), false},
		{"a is a set", with(a, func(o *api.Op) { o.Kind = api.OpSet }), b, false},
		{"both are of no kind", with(a, func(o *api.Op) { o.Kind = 0 }), with(b, func(o *api.Op) { o.Kind = 0 }), false},
		{"another client", a, with(b, func(o *api.Op) { o.Id.Client = 4 }), false},
		{"another client, whose Left", a, with(b, func(o *api.Op) { o.Id.Client, o.Left.Client = 4, 4 }), false},
		{"a clock later", a, with(b, func(o *api.Op) { o.Id.Clock = 8 }), false},
		{"a clock later, with Left", a, with(b, func(o *api.Op) { o.Id.Clock, o.Left.Clock = 8, 7 }), false},
		{"a clock earlier", a, with(b, func(o *api.Op) { o.Id.Clock = 6 }), false},
		{"a clock earlier, with Left", a, with(b, func(o *api.Op) { o.Id.Clock, o.Left.Clock = 6, 5 }), false},
		{"Left's client", a, with(b, func(o *api.Op) { o.Left.Client = 4 }), false},
		{"Left's clock", a, with(b, func(o *api.Op) { o.Left.Clock = 5 }), false},
		{"no Left", a, with(b, func(o *api.Op) { o.Left = api.Id{} }), false},
		{"Right's client", a, with(b, func(o *api.Op) { o.Right.Client = 4 }), false},
		{"Right's clock", a, with(b, func(o *api.Op) { o.Right.Clock = 3 }), false},
		{"no Right", a, with(b, func(o *api.Op) { o.Right = api.Id{} }), false},
		{"no Right of a", with(a, func(o *api.Op) { o.Right = api.Id{} }), b, false},
		{"a rune less in a", with(a, func(o *api.Op) { o.Text = "é" }), b, false},
		{"a rune more in a", with(a, func(o *api.Op) { o.Text = "abc" }), b, false},
		{"zeros", api.Op{}, api.Op{}, false},
		{"the last clock", text(3, top-1, api.Id{}, api.Id{}, "a"), text(3, top, id(3, top-1), api.Id{}, "b"), true},
		{"no rune in a", text(3, 5, api.Id{}, api.Id{}, ""), text(3, 5, id(3, 4), api.Id{}, "b"), false},
		{"no text in a", text(3, 5, api.Id{}, api.Id{}, "\xFF"), text(3, 5, id(3, 4), api.Id{}, "b"), false},
		{"no clock behind a", text(3, math.MaxUint64, api.Id{}, api.Id{}, "a"), text(3, 0, id(3, math.MaxUint64), api.Id{}, "b"), false},
		{"MaxText runes in all", text(3, 1, api.Id{}, api.Id{}, strings.Repeat("é", api.MaxText-1)), text(3, api.MaxText, id(3, api.MaxText-1), api.Id{}, "b"), true},
	} {
		if got := ops.Fits(x.a, x.b); got != x.want {
			t.Errorf("Fits, %s: %v", x.what, got)
		}
	}
}

// TestP8_3FitsOfLongTexts: two fit, however many runes they have together; what else P8.3 names is asked of long ones, too.
func TestP8_3FitsOfLongTexts(t *testing.T) {
	const m = api.MaxText
	for _, x := range []struct{ a, b int }{
		{m - 1, 1}, {1, m - 1}, {m / 2, m / 2}, // as many as one operation holds
		{m - 1, 2}, {2, m - 1}, {m, 1}, {1, m}, {m/2 + 1, m / 2}, {m, m}, // more
		{m + 1, 1}, {1, m + 1}, {m + 1, m + 1}, // with one that Check doesn't take
	} {
		l := rowOf(id(1, 1), id(2, 2), x.a, x.b)
		a, b := l[0], l[1]
		if !ops.Fits(a, b) {
			t.Errorf("Fits of %d runes and the %d behind them: false", x.a, x.b)
		}
		for what, wrong := range map[string]api.Op{
			"itself":           a,
			"a clock later":    with(b, func(o *api.Op) { o.Id.Clock++ }),
			"a clock earlier":  with(b, func(o *api.Op) { o.Id.Clock-- }),
			"another client":   with(b, func(o *api.Op) { o.Id.Client++ }),
			"another Left":     with(b, func(o *api.Op) { o.Left.Clock-- }),
			"another Right":    with(b, func(o *api.Op) { o.Right.Clock++ }),
			"no Right":         with(b, func(o *api.Op) { o.Right = api.Id{} }),
			"of another kind":  with(b, func(o *api.Op) { o.Kind = api.OpEmbed }),
			"one further on":   rowOf(id(1, 1), id(2, 2), x.a, x.b, 1)[2],
			"no text, nowhere": {},
		} {
			if ops.Fits(a, wrong) {
				t.Errorf("Fits of %d runes and the %d behind them, %s: true", x.a, x.b, what)
			}
		}
		if ops.Fits(b, a) {
			t.Errorf("Fits of the %d runes behind and the %d ahead of them: true", x.b, x.a)
		}
	}
}

func TestP8_3Join(t *testing.T) {
	none := api.Id{}
	noted := func(o api.Op, client, clock uint64) api.Op {
		o.Id = id(client, clock)
		return o
	}
	wrong := text(1, 2, id(1, 2), none, "b") // it names itself
	for _, x := range []struct {
		what    string
		l, want []api.Op
	}{
		{"nil", nil, nil},
		{"empty", []api.Op{}, nil},
		{"one", []api.Op{text(1, 1, none, none, "a")}, []api.Op{text(1, 1, none, none, "a")}},
		{"of each kind one", []api.Op{noted(set(), 4, 1), noted(mark(), 3, 9), noted(embed(), 3, 8), text(5, 1, none, none, "a")},
			[]api.Op{noted(embed(), 3, 8), noted(mark(), 3, 9), noted(set(), 4, 1), text(5, 1, none, none, "a")}},
		{"two that fit", []api.Op{text(1, 1, id(2, 1), id(3, 1), "aé"), text(1, 3, id(1, 2), id(3, 1), "c")}, []api.Op{text(1, 1, id(2, 1), id(3, 1), "aéc")}},
		{"two that fit, turned", []api.Op{text(1, 3, id(1, 2), id(3, 1), "c"), text(1, 1, id(2, 1), id(3, 1), "aé")}, []api.Op{text(1, 1, id(2, 1), id(3, 1), "aéc")}},
		{"three", []api.Op{text(1, 2, id(1, 1), none, "b"), text(1, 3, id(1, 2), none, "c"), text(1, 1, none, none, "a")}, []api.Op{text(1, 1, none, none, "abc")}},
		{"by clocks as numbers", []api.Op{text(1, 10, none, none, "b"), text(1, 9, none, none, "a"), text(10, 1, none, none, "d"), text(2, 1, none, none, "c")},
			[]api.Op{text(1, 9, none, none, "a"), text(1, 10, none, none, "b"), text(2, 1, none, none, "c"), text(10, 1, none, none, "d")}},
		{"a gap", []api.Op{text(1, 1, none, none, "a"), text(1, 3, id(1, 2), none, "c")}, []api.Op{text(1, 1, none, none, "a"), text(1, 3, id(1, 2), none, "c")}},
		{"another Right", []api.Op{text(1, 1, none, none, "a"), text(1, 2, id(1, 1), id(2, 1), "b")}, []api.Op{text(1, 1, none, none, "a"), text(1, 2, id(1, 1), id(2, 1), "b")}},
		{"an embed between", []api.Op{text(1, 3, id(1, 2), none, "c"), text(1, 1, none, none, "a"), {Id: id(1, 2), Kind: api.OpEmbed, Left: id(1, 1)}},
			[]api.Op{text(1, 1, none, none, "a"), {Id: id(1, 2), Kind: api.OpEmbed, Left: id(1, 1)}, text(1, 3, id(1, 2), none, "c")}},
		{"of one id the first", []api.Op{text(1, 1, none, none, "q"), text(1, 1, none, none, "ab"), noted(set(), 1, 1)}, []api.Op{text(1, 1, none, none, "q")}},
		{"of one id the first, others between", []api.Op{text(1, 2, id(1, 1), none, "x"), text(1, 1, none, none, "a"), text(1, 2, id(1, 1), none, "yz"), text(1, 1, none, none, "b")}, []api.Op{text(1, 1, none, none, "ax")}},
		{"of one id the first that is right", []api.Op{wrong, text(1, 2, none, none, "b"), text(1, 2, none, none, "c")}, []api.Op{text(1, 2, none, none, "b")}},
		{"wrong ones alone", []api.Op{{}, wrong, text(1, 1, none, none, ""), text(0, 1, none, none, "a"), {Id: id(1, 1), Kind: 5}}, nil},
		{"a wrong one between", []api.Op{text(1, 1, none, none, "a"), text(1, 2, id(1, 1), none, "\xFF"), text(1, 2, id(1, 1), none, "b")}, []api.Op{text(1, 1, none, none, "ab")}},
		{"too long a one", []api.Op{text(1, 1, none, none, strings.Repeat("a", api.MaxText+1)), text(1, 4098, id(1, 4097), none, "b")}, []api.Op{text(1, 4098, id(1, 4097), none, "b")}},
		{"overlapping", []api.Op{text(1, 1, none, none, "abc"), text(1, 2, id(1, 1), none, "b"), text(1, 4, id(1, 3), none, "d")},
			[]api.Op{text(1, 1, none, none, "abc"), text(1, 2, id(1, 1), none, "b"), text(1, 4, id(1, 3), none, "d")}},
		{"marks don't join", []api.Op{noted(mark(), 3, 5), noted(mark(), 3, 6)}, []api.Op{noted(mark(), 3, 5), noted(mark(), 3, 6)}},
		{"at the last clock", []api.Op{text(1, top, id(1, top-1), none, "b"), text(1, top-1, none, none, "a")}, []api.Op{text(1, top-1, none, none, "ab")}},
	} {
		checkOps(t, x.what, ops.Join(aside(t, x.l)), x.want)
		checkOps(t, x.what+", by the model", joined(x.l), x.want)
	}
}

// rowOf: a row of so many runes, each unlike its neighbours, in pieces of sizes.
func rowOf(left, right api.Id, sizes ...int) []api.Op {
	var l []api.Op
	clock := uint64(11)
	for _, n := range sizes {
		var s strings.Builder
		for i := range n {
			s.WriteRune(rune(0x3000 + (int(clock)+i)%5000))
		}
		l = append(l, text(6, clock, left, right, s.String()))
		clock += uint64(n)
		left = id(6, clock-1)
	}
	return l
}

func TestP8_3JoinOfLongRows(t *testing.T) {
	const m = api.MaxText
	for _, x := range []struct {
		in, out []int
	}{
		{[]int{m}, []int{m}},
		{[]int{m - 1, 1}, []int{m}},
		{[]int{1, m - 1}, []int{m}},
		{[]int{m, 1}, []int{m, 1}},
		{[]int{1, m}, []int{m, 1}},
		{[]int{m, m}, []int{m, m}},
		{[]int{m - 1, 2}, []int{m, 1}},
		{[]int{m - 1, m}, []int{m, m - 1}},
		{[]int{2000, 2000, 2000}, []int{m, 6000 - m}},
		{[]int{2000, 4000}, []int{m, 6000 - m}},
		{[]int{4000, 2000}, []int{m, 6000 - m}},
		{[]int{m, m, m, 1}, []int{m, m, m, 1}},
		{[]int{1, m, m, m}, []int{m, m, m, 1}},
		{[]int{3000, 3000, 3000, 3288}, []int{m, m, m}},
		{[]int{3000, 3000, 3000, 3289}, []int{m, m, m, 1}},
	} {
		in, want := rowOf(id(1, 1), id(2, 2), x.in...), rowOf(id(1, 1), id(2, 2), x.out...)
		checkOps(t, fmt.Sprint(x.in), ops.Join(aside(t, in)), want)
		slices.Reverse(in)
		checkOps(t, fmt.Sprint(x.in, " turned"), ops.Join(aside(t, in)), want)
	}
}

func TestP8_3JoinByIdThoughARowIsOverlapped(t *testing.T) {
	row := rowOf(api.Id{}, api.Id{}, 3000, 3000) // pieces begin at 11 and 4107
	within := text(6, 3500, api.Id{}, id(2, 2), "x")
	behind := text(6, 5000, api.Id{}, id(2, 2), "y")
	got := ops.Join(aside(t, []api.Op{behind, row[1], within, row[0]}))
	if !slices.EqualFunc(got, []uint64{11, 3500, 4107, 5000}, func(o api.Op, clock uint64) bool { return o.Id == id(6, clock) }) {
		t.Errorf("%v", told(got...))
	}
}

func TestP8_3JoinTellsOneNaN(t *testing.T) {
	for _, bits := range []uint64{theNaN, theNaN + 1, 0x7FF0000000000001, 0xFFFFFFFFFFFFFFFF} {
		for _, o := range []api.Op{embed(), mark(), set()} {
			o.V = nanOf(bits)
			l := []api.Op{o}
			got := ops.Join(l)
			if len(got) != 1 || math.Float64bits(got[0].V.F) != theNaN || math.Float64bits(l[0].V.F) != bits {
				t.Errorf("kind %d, NaN %x: %v", o.Kind, bits, got)
			}
		}
	}
}

func TestP8_3NothingIsKept(t *testing.T) {
	was := []api.Op{text(1, 1, api.Id{}, api.Id{}, "a"), text(1, 5, api.Id{}, api.Id{}, "b")}
	in := slices.Clone(was)
	out := ops.Join(in)
	in[0].Text = "q"
	checkOps(t, "the answer hangs on what was handed in", out, was)
	in[0].Text = "a"
	out[0].Text = "z"
	_ = append(out[:1], embed())
	checkOps(t, "what was handed in hangs on the answer", in, was)
}

func TestP8_5JoinOfPiecesIsJoinOfTheWhole(t *testing.T) {
	x := rand.New(rand.NewSource(85))
	others := []api.Op{embed(), text(6, 9, api.Id{}, id(2, 2), "z"), text(7, 11, id(6, 11), id(2, 2), "z")}
	for _, n := range []int{1, 2, 3, 50, 4000, api.MaxText} {
		whole := rowOf(id(1, 1), id(2, 2), n)[0]
		for range 20 {
			var l []api.Op
			for at := 0; at < n; {
				to := min(n, at+1+x.Intn(max(1, n/3)))
				piece, ok := ops.Cut(whole, at, to)
				if !ok {
					t.Fatalf("no piece from %d to %d", at, to)
				}
				l = append(l, piece)
				at = to
			}
			x.Shuffle(len(l), func(i, j int) { l[i], l[j] = l[j], l[i] })
			checkOps(t, "pieces", ops.Join(l), []api.Op{whole})
			checkOps(t, "pieces among others", ops.Join(slices.Concat(others, l)), ops.Join(slices.Concat([]api.Op{whole}, others)))
		}
	}
}

func TestP8_5JoinOfPiecesOfALongRow(t *testing.T) {
	x := rand.New(rand.NewSource(58))
	const n = 3*api.MaxText + 77
	want := rowOf(id(1, 1), api.Id{}, api.MaxText, api.MaxText, api.MaxText, 77)
	for range 40 {
		var sizes []int
		for left := n; left > 0; left -= sizes[len(sizes)-1] {
			sizes = append(sizes, min(left, 1+x.Intn(api.MaxText)))
		}
		l := rowOf(id(1, 1), api.Id{}, sizes...)
		x.Shuffle(len(l), func(i, j int) { l[i], l[j] = l[j], l[i] })
		checkOps(t, fmt.Sprint(sizes), ops.Join(l), want)
	}
}

func TestP8_5JoinOfSingleRunes(t *testing.T) {
	const n = 1 << 16
	var l []api.Op
	for clock := uint64(n); clock >= 1; clock-- {
		left := api.Id{}
		if clock > 1 {
			left = id(1, clock-1)
		}
		l = append(l, text(1, clock, left, api.Id{}, "é"))
	}
	got := ops.Join(aside(t, l))
	if len(got) != n/api.MaxText {
		t.Fatalf("%d pieces", len(got))
	}
	for i, o := range got {
		if o.Id.Clock != uint64(i*api.MaxText+1) || o.Text != strings.Repeat("é", api.MaxText) {
			t.Errorf("piece %d: %v", i, o.Id)
		}
	}
}
