package ids

import (
	"slices"

	"quire/api"
)

// Turns answers the turns of all ids of l as the fewest turns, in order.
func Turns(l []api.Turn) []api.Turn {
	return settle(slices.Collect(only(l, rightTurn)))
}

// TurnOf answers the greatest turn that l tells of id; 0: none.
func TurnOf(l []api.Turn, id api.Id) uint64 {
	n := uint64(0)
	for t := range only(l, rightTurn) {
		if within(rangeOf(t), id) {
			n = max(n, t.N)
		}
	}
	return n
}

// JoinTurns answers the turns that a and b tell together.
func JoinTurns(a, b []api.Turn) []api.Turn { return blend(Turns(a), Turns(b), greater) }

// Above answers a's turns of the ids whose turn in a is above that in b.
func Above(a, b []api.Turn) []api.Turn { return blend(Turns(a), Turns(b), ifAbove) }

// Hidden answers the ids whose turn is odd.
func Hidden(l []api.Turn) []api.Range {
	odd := slices.Collect(only(Turns(l), func(t api.Turn) bool { return t.N%2 == 1 }))
	return Clean(rangesOf(odd)) // turns that touch and are unlike may both be odd
}

// settle answers right turns in Turns' form. What is in it already is told by one walk, so that
// joining a little to a long list stays cheap.
func settle(l []api.Turn) []api.Turn {
	if settled(l) {
		return l
	}
	half := len(l) / 2
	return blend(settle(l[:half]), settle(l[half:]), greater)
}

func settled(l []api.Turn) bool {
	for i := 1; i < len(l); i++ {
		if !follows(l[i-1], l[i]) {
			return false
		}
	}
	return true
}

// follows answers whether b may stand behind a in Turns' form.
func follows(a, b api.Turn) bool {
	if a.Client != b.Client {
		return a.Client < b.Client
	}
	return a.To < b.From || a.To == b.From && a.N != b.N
}

func rightTurn(t api.Turn) bool { return rightRange(rangeOf(t)) && rightNumber(t.N) }
