package vector_test

import (
	"math"
	"math/rand"
	"slices"
	"testing"

	"quire/api"
	"quire/ids"
	"quire/vector"
)

const top = api.MaxId

// clientEdges, clockEdges: the numbers that vectors are drawn from, in order; right ones and others.
var (
	clientEdges = []uint64{0, 1, 2, 3, 300, top - 1, top, top + 1, math.MaxUint64}
	clockEdges  = []uint64{0, 1, 2, 3, 4, 127, 128, 1 << 32, top - 1, top, top + 1, math.MaxUint64}
)

// known: by the chapter's words, how many of client's clocks l knows.
func known(l []api.Clock, client uint64) uint64 {
	if client < 1 || client > top {
		return 0
	}
	n := uint64(0)
	for _, c := range l {
		if c.Client == client && c.Clock > n {
			n = c.Clock
		}
	}
	if n > top {
		return top
	}
	return n
}

// wantClocks: the vector in which each client of clientEdges has the clock that of tells.
func wantClocks(of func(client uint64) uint64) []api.Clock {
	var out []api.Clock
	for _, client := range clientEdges {
		if n := of(client); n > 0 {
			out = append(out, api.Clock{Client: client, Clock: n})
		}
	}
	return out
}

// wantRanges: of each client of clientEdges the clocks behind from(client), to to(client).
func wantRanges(from, to func(client uint64) uint64) []api.Range {
	var out []api.Range
	for _, client := range clientEdges {
		if from(client) < to(client) {
			out = append(out, api.Range{Client: client, From: from(client) + 1, To: to(client) + 1})
		}
	}
	return out
}

func checkClocks(t *testing.T, what string, got, want []api.Clock) {
	t.Helper()
	if !slices.Equal(got, want) {
		t.Errorf("%s: %v, not %v", what, got, want)
	}
}

func checkRanges(t *testing.T, what string, got, want []api.Range) {
	t.Helper()
	if !slices.Equal(got, want) {
		t.Errorf("%s: %v, not %v", what, got, want)
	}
	if clean := ids.Clean(got); !slices.Equal(got, clean) {
		t.Errorf("%s: %v, in ids' form %v", what, got, clean)
	}
}

// checkVectors: all that P7.1 says of a and b.
func checkVectors(t *testing.T, a, b []api.Clock) {
	t.Helper()
	a, b = aside(t, a), aside(t, b)
	none := func(uint64) uint64 { return 0 }
	ofA := func(client uint64) uint64 { return known(a, client) }
	ofB := func(client uint64) uint64 { return known(b, client) }
	checkClocks(t, "Clean", vector.Clean(a), wantClocks(ofA))
	checkClocks(t, "Join", vector.Join(a, b), wantClocks(func(c uint64) uint64 { return max(ofA(c), ofB(c)) }))
	checkClocks(t, "Meet", vector.Meet(a, b), wantClocks(func(c uint64) uint64 { return min(ofA(c), ofB(c)) }))
	checkRanges(t, "Ranges", vector.Ranges(a), wantRanges(none, ofA))
	checkRanges(t, "Missing", vector.Missing(a, b), wantRanges(ofA, ofB))
	within := !slices.ContainsFunc(clientEdges, func(c uint64) bool { return ofA(c) > ofB(c) })
	if got := vector.Within(a, b); got != within {
		t.Errorf("Within: %v", got)
	}
	for _, client := range clientEdges {
		if got := vector.At(a, client); got != ofA(client) {
			t.Errorf("At %d: %d, not %d", client, got, ofA(client))
		}
		for _, clock := range clockEdges {
			if got := vector.Has(a, id(client, clock)); got != (clock >= 1 && clock <= ofA(client)) {
				t.Errorf("Has %d, %d: %v", client, clock, got)
			}
		}
	}
	if t.Failed() {
		t.Fatalf("of %v and %v", a, b)
	}
}

// aside: l in other memory, with as much spare room behind it; when the test ends, all of that must be as it is now.
func aside[T comparable](t *testing.T, l []T) []T {
	t.Helper()
	whole := slices.Concat(l, l)
	was := slices.Clone(whole)
	t.Cleanup(func() {
		if !slices.Equal(whole, was) {
			t.Errorf("what was handed in is %v now, was %v", whole, was)
		}
	})
	return whole[:len(l)]
}

func drawnVector(n int, next func(int) int) []api.Clock {
	var l []api.Clock
	for range n {
		l = append(l, api.Clock{Client: clientEdges[next(len(clientEdges))], Clock: clockEdges[next(len(clockEdges))]})
	}
	return l
}

func TestP7_1VectorsByTheModel(t *testing.T) {
	x := rand.New(rand.NewSource(71))
	for range 3000 {
		checkVectors(t, drawnVector(x.Intn(12), x.Intn), drawnVector(x.Intn(12), x.Intn))
	}
}

func FuzzP7_1Vectors(f *testing.F) {
	f.Add([]byte{3, 1, 5, 7, 1, 1, 3, 5, 1})
	f.Add([]byte{})
	f.Fuzz(func(t *testing.T, b []byte) {
		next := byBytes(b)
		checkVectors(t, drawnVector(next(12), next), drawnVector(next(12), next))
	})
}

// byBytes: numbers below n by b's bytes; 0 when they have run out.
func byBytes(b []byte) func(n int) int {
	return func(n int) int {
		if len(b) == 0 {
			return 0
		}
		x := int(b[0]) % n
		b = b[1:]
		return x
	}
}
