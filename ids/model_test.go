package ids_test

import (
	"math"
	"math/rand"
	"slices"
	"testing"

	"quire/api"
	"quire/ids"
)

const top = api.MaxId

// clientEdges, clockEdges, turnEdges: the numbers that ranges and turns are drawn from, in order; right ones and others.
var (
	clientEdges = []uint64{0, 1, 2, top, top + 1, math.MaxUint64}
	clockEdges  = []uint64{0, 1, 2, 3, 4, 5, 6, 7, 8, 9, 1 << 32, top - 3, top - 2, top - 1, top, top + 1, top + 2, math.MaxUint64}
	turnEdges   = []uint64{0, 1, 2, 3, 4, top - 1, top, top + 1, math.MaxUint64}
)

// told: by the chapter's words, one range at a time, whether id is told by a range.
func told(r api.Range, id api.Id) bool {
	right := r.Client != 0 && r.Client <= top && r.From != 0 && r.From < r.To && r.To <= top+1
	return right && id.Client == r.Client && id.Clock >= r.From && id.Clock < r.To
}

func toldBySet(l []api.Range, id api.Id) bool {
	return slices.ContainsFunc(l, func(r api.Range) bool { return told(r, id) })
}

// toldTurn: by the chapter's words, the greatest turn of id.
func toldTurn(l []api.Turn, id api.Id) uint64 {
	n := uint64(0)
	for _, x := range l {
		if x.N <= top && told(api.Range{Client: x.Client, From: x.From, To: x.To}, id) {
			n = max(n, x.N)
		}
	}
	return n
}

// wantTurns: the fewest turns by which each id has the turn that of tells. Between two of clockEdges of may not change.
func wantTurns(of func(api.Id) uint64) []api.Turn {
	var out []api.Turn
	for _, c := range clientEdges {
		for i, from := range clockEdges[:len(clockEdges)-1] {
			n, to, last := of(api.Id{Client: c, Clock: from}), clockEdges[i+1], len(out)-1
			switch {
			case n == 0:
			case last >= 0 && out[last].Client == c && out[last].To == from && out[last].N == n:
				out[last].To = to
			default:
				out = append(out, api.Turn{Client: c, From: from, To: to, N: n})
			}
		}
	}
	return out
}

// wantRanges: the fewest ranges of the ids that has tells.
func wantRanges(has func(api.Id) bool) []api.Range {
	var out []api.Range
	for _, x := range wantTurns(func(id api.Id) uint64 {
		if has(id) {
			return 1
		}
		return 0
	}) {
		out = append(out, api.Range{Client: x.Client, From: x.From, To: x.To})
	}
	return out
}

// someIds: an id in each stretch between two edges, and at each edge.
func someIds() []api.Id {
	var out []api.Id
	for _, c := range clientEdges {
		for _, n := range clockEdges {
			out = append(out, api.Id{Client: c, Clock: n})
		}
	}
	return append(out, api.Id{Client: 1, Clock: 77}, api.Id{Client: top, Clock: 1 << 40})
}

func checkRanges(t *testing.T, what string, got, want []api.Range) {
	t.Helper()
	if !slices.Equal(got, want) {
		t.Errorf("%s: %v, not %v", what, got, want)
	}
}

func checkTurns(t *testing.T, what string, got, want []api.Turn) {
	t.Helper()
	if !slices.Equal(got, want) {
		t.Errorf("%s: %v, not %v", what, got, want)
	}
}

// checkSets: all that P6.1 says of a and b.
func checkSets(t *testing.T, a, b []api.Range) {
	t.Helper()
	a, b = aside(t, a), aside(t, b)
	inA := func(id api.Id) bool { return toldBySet(a, id) }
	inB := func(id api.Id) bool { return toldBySet(b, id) }
	clean := wantRanges(inA)
	checkRanges(t, "Clean", ids.Clean(a), clean)
	checkRanges(t, "Join", ids.Join(a, b), wantRanges(func(id api.Id) bool { return inA(id) || inB(id) }))
	checkRanges(t, "Meet", ids.Meet(a, b), wantRanges(func(id api.Id) bool { return inA(id) && inB(id) }))
	checkRanges(t, "Minus", ids.Minus(a, b), wantRanges(func(id api.Id) bool { return inA(id) && !inB(id) }))
	count := uint64(0)
	for _, r := range clean {
		count += r.To - r.From
	}
	if got := ids.Count(a); got != count {
		t.Errorf("Count: %d, not %d", got, count)
	}
	for _, id := range someIds() {
		if got := ids.Has(a, id); got != inA(id) {
			t.Errorf("Has %v: %v", id, got)
		}
	}
	checkAll(t, a, clean)
	if t.Failed() {
		t.Fatalf("of %v and %v", a, b)
	}
}

// checkAll: the first ids that All gives are the first of clean's, one by one.
func checkAll(t *testing.T, l, clean []api.Range) {
	t.Helper()
	var want []api.Id
	for _, r := range clean {
		for n := r.From; n < r.To && len(want) < 40; n++ {
			want = append(want, api.Id{Client: r.Client, Clock: n})
		}
	}
	var got []api.Id
	for id := range ids.All(l) {
		got = append(got, id)
		if len(got) == 40 {
			break
		}
	}
	if !slices.Equal(got, want) {
		t.Errorf("All: %v, not %v", got, want)
	}
}

// checkListsOfTurns: all that P6.2 says of a and b.
func checkListsOfTurns(t *testing.T, a, b []api.Turn) {
	t.Helper()
	a, b = aside(t, a), aside(t, b)
	ofA := func(id api.Id) uint64 { return toldTurn(a, id) }
	ofB := func(id api.Id) uint64 { return toldTurn(b, id) }
	checkTurns(t, "Turns", ids.Turns(a), wantTurns(ofA))
	checkTurns(t, "JoinTurns", ids.JoinTurns(a, b), wantTurns(func(id api.Id) uint64 { return max(ofA(id), ofB(id)) }))
	checkTurns(t, "Above", ids.Above(a, b), wantTurns(func(id api.Id) uint64 {
		if ofA(id) > ofB(id) {
			return ofA(id)
		}
		return 0
	}))
	checkRanges(t, "Hidden", ids.Hidden(a), wantRanges(func(id api.Id) bool { return ofA(id)%2 == 1 }))
	for _, id := range someIds() {
		if got := ids.TurnOf(a, id); got != ofA(id) {
			t.Errorf("TurnOf %v: %d, not %d", id, got, ofA(id))
		}
	}
	if t.Failed() {
		t.Fatalf("of %v and %v", a, b)
	}
}

// aside: l in other memory, with as much spare room behind it; when the test ends, all of that must be as it is now.
func aside[T comparable](t *testing.T, l []T) []T {
	t.Helper()
	whole := slices.Concat(l, l)
	was := slices.Clone(whole)
	t.Cleanup(func() {
		if !slices.Equal(whole, was) {
			t.Errorf("what was handed in is %v now, was %v", whole, was)
		}
	})
	return whole[:len(l)]
}

func drawnFrom(l []uint64, next func(int) int) uint64 { return l[next(len(l))] }

func drawnRange(next func(int) int) api.Range {
	r := api.Range{Client: drawnFrom(clientEdges, next), From: drawnFrom(clockEdges, next), To: drawnFrom(clockEdges, next)}
	if next(4) > 0 { // mostly right ones
		r = api.Range{Client: drawnFrom(clientEdges[1:4], next), From: min(r.From, r.To), To: max(r.From, r.To)}
	}
	return r
}

func drawnTurn(next func(int) int) api.Turn {
	r := drawnRange(next)
	return api.Turn{Client: r.Client, From: r.From, To: r.To, N: drawnFrom(turnEdges, next)}
}

func drawnList[T any](n int, drawn func(func(int) int) T, next func(int) int) []T {
	var l []T
	for range n {
		l = append(l, drawn(next))
	}
	return l
}

func TestP6_1SetsByTheModel(t *testing.T) {
	x := rand.New(rand.NewSource(61))
	for range 3000 {
		a, b := drawnList(x.Intn(9), drawnRange, x.Intn), drawnList(x.Intn(9), drawnRange, x.Intn)
		checkSets(t, a, b)
	}
}

func TestP6_2TurnsByTheModel(t *testing.T) {
	x := rand.New(rand.NewSource(62))
	for range 3000 {
		a, b := drawnList(x.Intn(9), drawnTurn, x.Intn), drawnList(x.Intn(9), drawnTurn, x.Intn)
		checkListsOfTurns(t, a, b)
	}
}

func TestP6_3OneFormOfOneSet(t *testing.T) {
	x := rand.New(rand.NewSource(63))
	for range 1000 {
		l := drawnList(x.Intn(9), drawnRange, x.Intn)
		form, other := ids.Clean(l), slices.Clone(l)
		for _, r := range form { // again, in parts, in any order
			mid := r.From + (r.To-r.From)/2
			other = append(other, api.Range{Client: r.Client, From: mid, To: r.To}, api.Range{Client: r.Client, From: r.From, To: mid})
		}
		x.Shuffle(len(other), func(i, j int) { other[i], other[j] = other[j], other[i] })
		checkRanges(t, "doubled", ids.Clean(other), form)
		checkRanges(t, "twice", ids.Clean(form), form)
		checkRanges(t, "joined", ids.Join(other, l), form)
		checkRanges(t, "met", ids.Meet(l, other), form)
		checkRanges(t, "parted", ids.Join(ids.Minus(l, l[:len(l)/2]), ids.Meet(l[:len(l)/2], l)), form)
	}
}

func TestP6_3OneFormOfTheSameTurns(t *testing.T) {
	x := rand.New(rand.NewSource(64))
	for range 1000 {
		l := drawnList(x.Intn(9), drawnTurn, x.Intn)
		form, other := ids.Turns(l), slices.Clone(l)
		for _, r := range ids.Turns(l) { // again, with a part that tells less
			other = append(other, r, api.Turn{Client: r.Client, From: r.From, To: r.From + 1, N: r.N - 1})
		}
		x.Shuffle(len(other), func(i, j int) { other[i], other[j] = other[j], other[i] })
		checkTurns(t, "doubled", ids.Turns(other), form)
		checkTurns(t, "twice", ids.Turns(form), form)
		checkTurns(t, "joined", ids.JoinTurns(other, l), form)
		half := l[:len(l)/2]
		checkTurns(t, "parted", ids.JoinTurns(ids.Above(l, half), half), form)
		checkTurns(t, "above none", ids.Above(l, nil), form)
		checkTurns(t, "above itself", ids.Above(l, other), nil)
	}
}

func FuzzP6_1Sets(f *testing.F) {
	f.Add([]byte{3, 1, 5, 7, 1, 1, 3, 5, 1})
	f.Add([]byte{})
	f.Fuzz(func(t *testing.T, b []byte) {
		next := byBytes(b)
		checkSets(t, drawnList(next(12), drawnRange, next), drawnList(next(12), drawnRange, next))
	})
}

func FuzzP6_2Turns(f *testing.F) {
	f.Add([]byte{3, 1, 5, 7, 1, 1, 3, 5, 1})
	f.Add([]byte{})
	f.Fuzz(func(t *testing.T, b []byte) {
		next := byBytes(b)
		checkListsOfTurns(t, drawnList(next(12), drawnTurn, next), drawnList(next(12), drawnTurn, next))
	})
}

// byBytes: numbers below n by b's bytes; 0 when they have run out.
func byBytes(b []byte) func(n int) int {
	return func(n int) int {
		if len(b) == 0 {
			return 0
		}
		x := int(b[0]) % n
		b = b[1:]
		return x
	}
}
