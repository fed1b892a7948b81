package ops_test

import (
	"math"
	"math/rand"
	"slices"
	"sort"
	"strings"
	"testing"
	"unicode/utf8"

	"quire/api"
	"quire/ops"
	"quire/value"
)

const (
	top = api.MaxId
	// theNaN: the bits of the one NaN that is ever answered.
	theNaN = 0x7FF8000000000000
)

// exact: whether a and b are alike to the last bit; it holds ops.Same itself to its words.
func exact(a, b api.Op) bool {
	if math.Float64bits(a.V.F) != math.Float64bits(b.V.F) {
		return false
	}
	a.V.F, b.V.F = 0, 0
	return a == b
}

// aside: l in other memory, with as much spare room behind it; when the test ends, all of that must be as it is now.
func aside(t *testing.T, l []api.Op) []api.Op {
	t.Helper()
	whole := slices.Concat(l, l)
	was := slices.Clone(whole)
	t.Cleanup(func() {
		if !slices.EqualFunc(whole, was, exact) {
			t.Errorf("what was handed in has changed")
		}
	})
	return whole[:len(l)]
}

// told: operations for a failing test to tell, with the beginnings of long texts.
func told(l ...api.Op) []api.Op {
	for i, o := range l {
		l[i].Text = o.Text[:min(len(o.Text), 64)]
		l[i].Key = o.Key[:min(len(o.Key), 64)]
		l[i].V.S = o.V.S[:min(len(o.V.S), 64)]
	}
	return l
}

func checkOps(t *testing.T, what string, got, want []api.Op) {
	t.Helper()
	if !slices.EqualFunc(got, want, exact) {
		t.Errorf("%s: %d, not %d: %v, not %v", what, len(got), len(want), told(slices.Clone(got)...), told(slices.Clone(want)...))
	}
}

func number(n uint64) bool { return 1 <= n && n <= top }

func rightId(id api.Id) bool { return number(id.Client) && number(id.Clock) }

// clocks: by the chapter's words, how many o has.
func clocks(o api.Op) int {
	switch {
	case o.Kind != api.OpText:
		return 1
	case !utf8.ValidString(o.Text):
		return 0
	}
	return utf8.RuneCountInString(o.Text)
}

// isRight: by the chapter's words, whether Check takes o.
func isRight(o api.Op) bool {
	none, nowhere := api.Id{}, api.Anchor{}
	blank := o.V.Kind == 0 && o.V.N == 0 && math.Float64bits(o.V.F) == 0 && o.V.S == ""
	isValue := value.Check(o.V) == api.OK
	key := utf8.ValidString(o.Key) && 1 <= len(o.Key) && len(o.Key) <= api.MaxKey
	ofText := o.Left == none && o.Right == none
	ofMark := o.From == nowhere && o.To == nowhere
	n := uint64(clocks(o))
	var right bool
	switch o.Kind {
	case api.OpText:
		right = n >= 1 && n <= api.MaxText && o.Stamp == 0 && blank && o.Key == "" && o.Parent == none && ofMark
	case api.OpEmbed:
		right = o.Text == "" && o.Stamp == 0 && isValue && o.V.Kind != api.ValMap && o.Key == "" && o.Parent == none && ofMark
	case api.OpMark:
		right = o.Text == "" && number(o.Stamp) && isValue && o.V.Kind != api.ValMap && key && o.Parent == none && ofText
	case api.OpSet:
		right = o.Text == "" && number(o.Stamp) && isValue && key && ofText && ofMark
	}
	if !right || !rightId(o.Id) || !rightId(api.Id{Client: o.Id.Client, Clock: o.Id.Clock + n - 1}) {
		return false
	}
	for _, id := range []api.Id{o.Left, o.Right, o.From.Id, o.To.Id, o.Parent} {
		own := id.Client == o.Id.Client && id.Clock >= o.Id.Clock && id.Clock < o.Id.Clock+n
		if id != none && (!rightId(id) || own) {
			return false
		}
	}
	return true
}

// goOn: by the chapter's words, whether b, a text, fits a, another one; both are right.
func goOn(a, b api.Op) bool {
	last := api.Id{Client: a.Id.Client, Clock: a.Id.Clock + uint64(clocks(a)) - 1}
	return a.Kind == api.OpText && b.Kind == api.OpText && a.Id.Client == b.Id.Client &&
		b.Id.Clock == last.Clock+1 && b.Left == last && b.Right == a.Right
}

func sortById(l []api.Op) {
	sort.SliceStable(l, func(i, j int) bool {
		a, b := l[i].Id, l[j].Id
		return a.Client < b.Client || a.Client == b.Client && a.Clock < b.Clock
	})
}

// joined: by the chapter's words, Join of l.
func joined(l []api.Op) []api.Op {
	var rest, out []api.Op
	for _, o := range l {
		if isRight(o) && !slices.ContainsFunc(rest, func(x api.Op) bool { return x.Id == o.Id }) {
			o.V = value.Clean(o.V)
			rest = append(rest, o)
		}
	}
	sortById(rest)
	for len(rest) > 0 {
		n := 1
		for n < len(rest) && goOn(rest[n-1], rest[n]) {
			n++
		}
		out = append(out, cutRow(rest[:n])...)
		rest = rest[n:]
	}
	sortById(out)
	return out
}

// cutRow: by the chapter's words, the pieces of a row; one alone is its own piece.
func cutRow(row []api.Op) []api.Op {
	if len(row) == 1 {
		return row
	}
	var runes []rune
	for _, o := range row {
		runes = append(runes, []rune(o.Text)...)
	}
	var out []api.Op
	for at := 0; at < len(runes); at += api.MaxText {
		o := row[0]
		o.Text = string(runes[at:min(at+api.MaxText, len(runes))])
		if at > 0 {
			o.Left = api.Id{Client: o.Id.Client, Clock: o.Id.Clock + uint64(at) - 1}
			o.Id.Clock += uint64(at)
		}
		out = append(out, o)
	}
	return out
}

// numberEdges: numbers that operations are drawn from; right ones and others.
func numberEdges() []uint64 {
	return []uint64{0, 1, 2, 3, 4, 5, top - 1, top, top + 1, math.MaxUint64}
}

func textEdges() []string {
	return []string{
		"", "a", "ab", "é\U0001F600c", "\x00", "\xFF", "a\x80", "\xED\xA0\x80",
		strings.Repeat("k", api.MaxKey), strings.Repeat("k", api.MaxKey+1), strings.Repeat("é", api.MaxKey/2), strings.Repeat("é", api.MaxKey/2) + "k",
		strings.Repeat("x", api.MaxText), strings.Repeat("\U0001F600", api.MaxText), strings.Repeat("x", api.MaxText+1), strings.Repeat("é", api.MaxText+1),
	}
}

func valueEdges() []api.Value {
	return []api.Value{
		{}, {Kind: api.ValBool, N: 1}, {Kind: api.ValInt, N: -3}, {Kind: api.ValFloat, F: 0.5}, {Kind: api.ValText, S: "v"}, {Kind: api.ValMap},
		nanOf(theNaN), nanOf(theNaN + 1), nanOf(0xFFF0000000000001), {Kind: api.ValFloat, F: math.Copysign(0, -1)}, {F: math.Copysign(0, -1)}, {F: math.NaN()},
		{Kind: -1}, {Kind: 6}, {N: 1}, {Kind: api.ValBool, N: 2}, {Kind: api.ValMap, S: "s"}, {Kind: api.ValText, S: "\xFF"},
		{Kind: api.ValText, S: strings.Repeat("s", api.MaxString)}, {Kind: api.ValText, S: strings.Repeat("s", api.MaxString+1)},
	}
}

func nanOf(bits uint64) api.Value {
	return api.Value{Kind: api.ValFloat, F: math.Float64frombits(bits)}
}

func pick[T any](l []T, next func(int) int) T { return l[next(len(l))] }

func drawnId(next func(int) int) api.Id {
	return api.Id{Client: pick(numberEdges(), next), Clock: pick(numberEdges(), next)}
}

// drawnOp: one of the right ones, with so many of its fields drawn anew.
func drawnOp(next func(int) int) api.Op {
	o := pick(kinds(), next)
	for range next(4) {
		switch next(12) {
		case 0:
			o.Id = drawnId(next)
		case 1:
			o.Kind = next(7) - 1
		case 2:
			o.Stamp = pick(numberEdges(), next)
		case 3:
			o.Left = drawnId(next)
		case 4:
			o.Right = drawnId(next)
		case 5:
			o.Text = pick(textEdges(), next)
		case 6:
			o.V = pick(valueEdges(), next)
		case 7:
			o.Key = pick(textEdges(), next)
		case 8:
			o.Parent = drawnId(next)
		case 9:
			o.From = api.Anchor{Id: drawnId(next), After: next(2) == 1}
		case 10:
			o.To = api.Anchor{Id: drawnId(next), After: next(2) == 1}
		}
	}
	return o
}

// checkOp: what P8.1, P8.2 and P8.4 say of one operation.
func checkOp(t *testing.T, o api.Op, from, to int) {
	t.Helper()
	want, n := api.OK, clocks(o)
	if !isRight(o) {
		want = api.ErrOpForm
	}
	if got := ops.Check(o); got != want {
		t.Errorf("P8.1: Check %v: %v, not %v", told(o), got, want)
	}
	if got := ops.Len(o); got != n {
		t.Errorf("P8.2: Len %v: %d, not %d", told(o), got, n)
	}
	if got := ops.Range(o); got != (api.Range{Client: o.Id.Client, From: o.Id.Clock, To: o.Id.Clock + uint64(n)}) {
		t.Errorf("P8.2: Range %v: %v", told(o), got)
	}
	piece, ok := ops.Cut(o, from, to)
	wantPiece, wantOk := cutOf(o, from, to)
	if ok != wantOk || !exact(piece, wantPiece) {
		t.Errorf("P8.2: Cut %v, %d, %d: %v, %v", told(o), from, to, told(piece), ok)
	}
	var needs []api.Id
	for _, id := range []api.Id{o.Left, o.Right, o.From.Id, o.To.Id, o.Parent} {
		if id != (api.Id{}) && id.Client != o.Id.Client {
			needs = append(needs, id)
		}
	}
	if got := ops.Needs(o); !slices.Equal(got, needs) {
		t.Errorf("P8.4: Needs %v: %v, not %v", told(o), got, needs)
	}
}

// cutOf: by the chapter's words, Cut of o.
func cutOf(o api.Op, from, to int) (api.Op, bool) {
	if from < 0 || to > clocks(o) || from >= to {
		return api.Op{}, false
	}
	o.V = value.Clean(o.V)
	if o.Kind != api.OpText {
		return o, true
	}
	o.Text = string([]rune(o.Text)[from:to])
	if from != 0 {
		o.Left = api.Id{Client: o.Id.Client, Clock: o.Id.Clock + uint64(from) - 1}
		o.Id.Clock += uint64(from)
	}
	return o, true
}

func TestP8_1To4OperationsByTheModel(t *testing.T) {
	x := rand.New(rand.NewSource(81))
	right := 0
	for range 30000 {
		o := drawnOp(x.Intn)
		if isRight(o) {
			right++
		}
		checkOp(t, o, x.Intn(6)-1, x.Intn(6)-1)
		other := drawnOp(x.Intn)
		clean, cleanOther := o, other
		clean.V, cleanOther.V = value.Clean(o.V), value.Clean(other.V)
		if got := ops.Same(o, other); got != exact(clean, cleanOther) {
			t.Errorf("P8.4: Same %v: %v", told(o, other), got)
		}
	}
	if right < 3000 || right > 27000 {
		t.Errorf("of the operations drawn %d were right", right)
	}
}

func FuzzP8_1To4Operations(f *testing.F) {
	f.Add([]byte{0, 1, 3, 1, 2})
	f.Add([]byte{})
	f.Fuzz(func(t *testing.T, b []byte) {
		next := byBytes(b)
		checkOp(t, drawnOp(next), next(6)-1, next(6)-1)
	})
}

// drawnList: pieces of some texts, overlapping, doubled, some left out, and others among them, in any order.
func drawnList(longest int, next func(int) int) []api.Op {
	var l []api.Op
	for client := uint64(1); client <= 2; client++ {
		whole := api.Op{Id: api.Id{Client: client, Clock: uint64(1 + next(3))}, Kind: api.OpText, Text: strings.Repeat("aé\U0001F600", 1+next(longest))}
		if next(2) == 1 {
			whole.Right = api.Id{Client: 7, Clock: 7}
		}
		n := clocks(whole)
		for at := 0; at < n; {
			size := 1 + next(api.MaxText)%max(1, n/2)
			if piece, ok := cutOf(whole, at, min(at+size, n)); ok && next(20) > 0 {
				l = append(l, piece)
			}
			at += size
			if next(12) == 0 {
				at -= next(min(size, at) + 1)
			}
		}
	}
	for range next(4) {
		l = append(l, drawnOp(next))
	}
	for i := range l {
		j := next(i + 1)
		l[i], l[j] = l[j], l[i]
	}
	return l
}

func TestP8_3FitsByTheModel(t *testing.T) {
	x := rand.New(rand.NewSource(38))
	fit, long := 0, 0
	for i := range 300 {
		longest := 12
		if i%10 == 0 {
			longest = 2 * api.MaxText
		}
		l := slices.DeleteFunc(drawnList(longest, x.Intn), func(o api.Op) bool { return !isRight(o) })
		for _, a := range l {
			for _, b := range l {
				want := goOn(a, b)
				if got := ops.Fits(a, b); got != want {
					t.Errorf("P8.3: Fits %v: %v", told(a, b), got)
				}
				if want {
					fit++
				}
				if want && clocks(a)+clocks(b) > api.MaxText {
					long++
				}
			}
		}
	}
	if fit < 300 || long < 20 {
		t.Errorf("of the pairs drawn %d fitted, %d of them of more than MaxText runes", fit, long)
	}
}

func TestP8_3JoinByTheModel(t *testing.T) {
	x := rand.New(rand.NewSource(83))
	for range 1500 {
		l := aside(t, drawnList(12, x.Intn))
		checkOps(t, "Join of short ones", ops.Join(l), joined(l))
	}
	for range 150 {
		l := aside(t, drawnList(2*api.MaxText, x.Intn))
		checkOps(t, "Join of long ones", ops.Join(l), joined(l))
	}
}

func FuzzP8_3Join(f *testing.F) {
	f.Add([]byte{1, 2, 3, 4, 5, 6, 7, 8})
	f.Add([]byte{})
	f.Fuzz(func(t *testing.T, b []byte) {
		l := aside(t, drawnList(12, byBytes(b)))
		checkOps(t, "Join", ops.Join(l), joined(l))
	})
}

// byBytes: numbers below n by b's bytes; 0 when they have run out.
func byBytes(b []byte) func(n int) int {
	return func(n int) int {
		if len(b) == 0 {
			return 0
		}
		x := int(b[0]) % n
		b = b[1:]
		return x
	}
}
