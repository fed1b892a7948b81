package marks_test

import (
	"math"
	"math/rand"
	"slices"
	"sort"
	"testing"

	"quire/api"
	"quire/marks"
	"quire/seq"
)

const (
	top = api.MaxId
	// theNaN: the bits of the one NaN that is ever answered.
	theNaN = 0x7FF8000000000000
)

var none api.Id

func id(client, clock uint64) api.Id { return api.Id{Client: client, Clock: clock} }

func ahead(x api.Id) api.Anchor { return api.Anchor{Id: x} }

func behind(x api.Id) api.Anchor { return api.Anchor{Id: x, After: true} }

// start, end: ahead of all units, and behind all of them.
var start, end = ahead(none), behind(none)

func boolean(n int64) api.Value { return api.Value{Kind: api.ValBool, N: n} }

func integer(n int64) api.Value { return api.Value{Kind: api.ValInt, N: n} }

func float(f float64) api.Value { return api.Value{Kind: api.ValFloat, F: f} }

func floatOf(bits uint64) api.Value { return float(math.Float64frombits(bits)) }

func text(s string) api.Value { return api.Value{Kind: api.ValText, S: s} }

var null api.Value

func mark(x api.Id, stamp uint64, from, to api.Anchor, key string, v api.Value) api.Op {
	return api.Op{Id: x, Kind: api.OpMark, Stamp: stamp, From: from, To: to, Key: key, V: v}
}

// list: operations; none: nil.
func list(l ...api.Op) []api.Op { return l }

// shows: marks, of a key and its value in turn.
func shows(l ...any) []api.Mark {
	var out []api.Mark
	for i := 0; i < len(l); i += 2 {
		out = append(out, api.Mark{Key: l[i].(string), V: l[i+1].(api.Value)})
	}
	return out
}

// row: a sequence whose units stand in this order, each with the one ahead as its Left.
func row(t testing.TB, order ...api.Id) *seq.Seq {
	t.Helper()
	s := seq.New()
	last := none
	for _, x := range order {
		if !s.Insert(api.Unit{Id: x, Left: last}) {
			t.Fatalf("the test's own: %v can't come", x)
		}
		last = x
	}
	return s
}

func orderOf(s *seq.Seq) []api.Id {
	var out []api.Id
	for _, u := range s.All() {
		out = append(out, u.Id)
	}
	return out
}

func alike(a, b api.Value) bool {
	return a.Kind == b.Kind && a.N == b.N && math.Float64bits(a.F) == math.Float64bits(b.F) && a.S == b.S
}

// exactMarks: whether a and b are alike to the last bit; it holds marks.Same itself to its words.
func exactMarks(a, b []api.Mark) bool {
	return slices.EqualFunc(a, b, func(x, y api.Mark) bool { return x.Key == y.Key && alike(x.V, y.V) })
}

func exactOp(a, b api.Op) bool {
	if !alike(a.V, b.V) {
		return false
	}
	a.V, b.V = null, null
	return a == b
}

// aside: l in other memory, with as much spare room behind it; when the test ends, all of that must be as it is now.
func aside[T any](t *testing.T, l []T, alike func(a, b T) bool) []T {
	t.Helper()
	whole := slices.Concat(l, l)
	was := slices.Clone(whole)
	t.Cleanup(func() {
		if !slices.EqualFunc(whole, was, alike) {
			t.Errorf("what was handed in has changed")
		}
	})
	return whole[:len(l)]
}

// gap: by the chapter's words, Gap of a, of units that stand in this order.
func gap(order []api.Id, a api.Anchor) (int, bool) {
	n := slices.Index(order, a.Id)
	switch {
	case a.Id == none && !a.After:
		return 0, true
	case a.Id == none:
		return len(order), true
	case n < 0:
		return 0, false
	case a.After:
		return n + 1, true
	}
	return n, true
}

// over: by the chapter's words, Over of o.
func over(order []api.Id, o api.Op) (int, int) {
	from, ok := gap(order, o.From)
	to, too := gap(order, o.To)
	if ok && too && from < to {
		return from, to
	}
	return 0, 0
}

// less: by the chapter's words, Less of a and b.
func less(a, b api.Op) bool {
	switch {
	case a.Stamp != b.Stamp:
		return a.Stamp < b.Stamp
	case a.Id.Client != b.Id.Client:
		return a.Id.Client < b.Id.Client
	}
	return a.Id.Clock < b.Id.Clock
}

// at: by the chapter's words, At of a place: those over it that none of their key wins over, nor one as good that stands ahead.
func at(order []api.Id, l []api.Op, place int) []api.Mark {
	var here []api.Op
	for _, o := range l {
		if from, to := over(order, o); o.Kind == api.OpMark && from <= place && place < to {
			here = append(here, o)
		}
	}
	var out []api.Mark
	for i, o := range here {
		beaten := false
		for k, x := range here {
			beaten = beaten || x.Key == o.Key && (less(o, x) || k < i && !less(x, o))
		}
		if !beaten && o.V.Kind != api.ValNull {
			if o.V.F != o.V.F {
				o.V.F = math.Float64frombits(theNaN)
			}
			out = append(out, api.Mark{Key: o.Key, V: o.V})
		}
	}
	sort.Slice(out, func(i, k int) bool { return out[i].Key < out[k].Key })
	return out
}

// checkPlaces: whether At of each place, All, and At beside them, tell these marks.
func checkPlaces(t *testing.T, what string, s *seq.Seq, l []api.Op, want ...[]api.Mark) {
	t.Helper()
	l = aside(t, l, exactOp)
	all := marks.All(s, l)
	if len(all) != len(want) || s.Len() != len(want) {
		t.Fatalf("%s: All is of %d places, not %d", what, len(all), len(want))
	}
	for i := range want {
		if got := marks.At(s, l, i); !exactMarks(got, want[i]) {
			t.Errorf("%s: At %d: %v, not %v", what, i, got, want[i])
		}
		if !exactMarks(all[i], want[i]) {
			t.Errorf("%s: All, %d: %v, not %v", what, i, all[i], want[i])
		}
	}
	for _, i := range []int{math.MinInt, math.MinInt32, -2, -1, len(want), len(want) + 1, math.MaxInt32, math.MaxInt} {
		if got := marks.At(s, l, i); len(got) != 0 {
			t.Errorf("%s: At %d: %v", what, i, got)
		}
	}
	if t.Failed() {
		t.Fatalf("%s: of %v, %v", what, orderOf(s), l)
	}
}

// checkModel: whether all that P11.1 and P11.2 say of l holds.
func checkModel(t *testing.T, what string, s *seq.Seq, l []api.Op) {
	t.Helper()
	order := orderOf(s)
	for _, o := range l {
		for _, a := range []api.Anchor{o.From, o.To} {
			n, ok := marks.Gap(s, a)
			if want, told := gap(order, a); n != want || ok != told {
				t.Fatalf("%s: Gap %v: %d, %v, not %d, %v", what, a, n, ok, want, told)
			}
		}
		from, to := marks.Over(s, o)
		if x, y := over(order, o); from != x || to != y {
			t.Fatalf("%s: Over %v: %d, %d, not %d, %d", what, o, from, to, x, y)
		}
	}
	var want [][]api.Mark
	for i := range order {
		want = append(want, at(order, l, i))
	}
	checkPlaces(t, what, s, l, want...)
}

// drawSeq: a sequence of up to n units of several clients, as draws have them come.
func drawSeq(r *rand.Rand, n int) *seq.Seq {
	s := seq.New()
	for k := range r.Intn(n + 1) {
		place := r.Intn(s.Len() + 1)
		left, _ := s.At(place - 1)
		right, _ := s.At(place)
		s.Run(api.Unit{Id: id(uint64(1+r.Intn(3)), uint64(1+5*k)), Left: left.Id, Right: right.Id}, 1+r.Intn(3))
	}
	return s
}

// drawMarks: n operations, most of them marks, each of an id of its own, over places of s; few keys and stamps, so that many are to be held against one another.
func drawMarks(r *rand.Rand, s *seq.Seq, n int) []api.Op {
	anchor := func() api.Anchor {
		a := api.Anchor{After: r.Intn(2) == 0}
		switch u, ok := s.At(r.Intn(s.Len() + 1)); {
		case ok:
			a.Id = u.Id
		case r.Intn(3) == 0:
			a.Id = id(uint64(r.Intn(6)), uint64(r.Intn(99)))
		}
		return a
	}
	keys := []string{"", "a", "b", "ab", "é"}
	values := []api.Value{null, null, boolean(0), boolean(1), integer(-3), float(0), float(math.Copysign(0, -1)), floatOf(0xFFF0000000000001), text("x"), {Kind: api.ValMap}}
	var out []api.Op
	for k := range n {
		o := mark(id(uint64(1+r.Intn(4)), uint64(1+k)), uint64(1+r.Intn(5)), anchor(), anchor(), keys[r.Intn(len(keys))], values[r.Intn(len(values))])
		if r.Intn(8) == 0 {
			o.Kind = r.Intn(7) - 1
		}
		out = append(out, o)
	}
	r.Shuffle(len(out), func(i, k int) { out[i], out[k] = out[k], out[i] })
	return out
}

func TestP11_2ByTheModel(t *testing.T) {
	for round := range 1500 {
		r := rand.New(rand.NewSource(int64(round)))
		s := drawSeq(r, 12)
		checkModel(t, "draws", s, drawMarks(r, s, r.Intn(25)))
	}
}

// FuzzP11_2ByTheModel: six bytes an operation; ids may be told twice here, of marks that are unlike: of those that are as good the first one counts.
func FuzzP11_2ByTheModel(f *testing.F) {
	f.Add(byte(3), []byte{0x11, 1, 0, 4, 1, 0x11, 0x12, 2, 2, 1, 1, 0x10})
	f.Add(byte(0), []byte{0x11, 1, 0, 1, 1, 0x11})
	f.Add(byte(9), []byte{0x21, 1, 0, 1, 1, 0x13, 0x21, 1, 0, 1, 1, 0x14, 0x31, 1, 4, 9, 2, 0x13})
	f.Fuzz(func(t *testing.T, units byte, b []byte) {
		s := seq.New()
		for k := range uint64(units % 24) { // each second one ahead of all
			first, _ := s.At(0)
			last, _ := s.At(s.Len() - 1)
			if k%2 == 0 {
				s.Insert(api.Unit{Id: id(1+k%3, 1+k), Left: last.Id})
			} else {
				s.Insert(api.Unit{Id: id(1+k%3, 1+k), Right: first.Id})
			}
		}
		anchor := func(x byte) api.Anchor {
			u, _ := s.At(int(x >> 1))
			if x > 250 {
				u.Id = id(uint64(x-250), 77)
			}
			return api.Anchor{Id: u.Id, After: x&1 == 1}
		}
		var l []api.Op
		for ; len(b) >= 6 && len(l) < 40; b = b[6:] {
			o := mark(id(uint64(b[0]>>4), uint64(b[0]&15)), uint64(b[1]), anchor(b[2]), anchor(b[3]), string(b[4:5]), api.Value{Kind: int(b[5] & 7), N: int64(b[5] >> 6)})
			if b[5]&8 != 0 {
				o.Kind = int(b[5] >> 4)
			}
			l = append(l, o)
		}
		checkModel(t, "fuzz", s, l)
	})
}
