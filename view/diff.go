package view

import (
	"slices"
	"strings"

	"quire/api"
	"quire/marks"
	"quire/utf"
	"quire/value"
)

// Diff answers what Patch makes b of a by: from which unit on how many give way to what.
func Diff(a, b []api.Run) (int, int, []api.Run) {
	a, b = Clean(a), Clean(b)
	at := alikeAhead(a, b)
	restA, restB := Cut(a, at, lengthOf(a)), Cut(b, at, lengthOf(b))
	atEnd := alikeAhead(backward(restA), backward(restB))
	return at, lengthOf(restA) - atEnd, Cut(restB, 0, lengthOf(restB)-atEnd)
}

// alikeAhead answers how many units both begin with. Both are in Clean's form: behind a text of one that ends within a text of the other there comes an embed, or a text with other marks, so that the first runs that differ are the last ones to look at.
func alikeAhead(a, b []api.Run) int {
	n := 0
	for i := range min(len(a), len(b)) {
		both := alikeUnits(a[i], b[i])
		n += both
		if both < max(length(a[i]), length(b[i])) {
			break
		}
	}
	return n
}

// alikeUnits answers how many units both runs begin with.
func alikeUnits(a, b api.Run) int {
	switch {
	case canJoin(a, b):
		return alikeRunes(a.Text, b.Text)
	case a.Embed && b.Embed && value.Same(a.V, b.V) && marks.Same(a.Marks, b.Marks):
		return 1
	}
	return 0
}

// alikeRunes answers how many runes both texts begin with.
func alikeRunes(a, b string) int {
	n := 0
	for _, r := range utf.Runes(a) {
		rest, begins := strings.CutPrefix(b, string(r))
		if !begins {
			break
		}
		b = rest
		n++
	}
	return n
}

// backward answers the units of l from the last one to the first, so that what lists end with is what they begin with.
func backward(l []api.Run) []api.Run {
	out := slices.Clone(l)
	slices.Reverse(out)
	for i := range out {
		runes := []rune(out[i].Text)
		slices.Reverse(runes)
		out[i].Text = string(runes)
	}
	return out
}
