package ops

import (
	"cmp"
	"slices"
	"strings"

	"quire/api"
	"quire/ids"
)

// Fits answers whether b's runes go on where a's end. It doesn't ask whether one operation can hold both: a row may be longer than that.
func Fits(a, b api.Op) bool {
	own := Range(a)
	last := api.Id{Client: own.Client, Clock: own.To - 1}
	return a.Kind == api.OpText && b.Kind == api.OpText &&
		own.From < own.To && // else a has no last rune, or no clock is behind it
		b.Id == api.Id{Client: own.Client, Clock: own.To} &&
		b.Left == last && b.Right == a.Right
}

// Join answers the right ones of l in order, the texts that go on where others end in as few as can be.
func Join(l []api.Op) []api.Op {
	rest := rightOnes(l)
	var out []api.Op
	for len(rest) > 0 {
		n := rowLen(rest)
		out = append(out, pieces(rest[:n])...)
		rest = rest[n:]
	}
	return inOrder(out) // a row's later pieces may begin behind what overlaps its end
}

// rightOnes answers those of l that Check takes, in order, the first one of each id.
func rightOnes(l []api.Op) []api.Op {
	var out []api.Op
	for _, o := range l {
		if Check(o) == api.OK {
			out = append(out, o)
		}
	}
	return slices.CompactFunc(inOrder(out), func(a, b api.Op) bool { return a.Id == b.Id })
}

// inOrder answers l by ids, those of one id as they stood. It sorts places in l, since operations are large.
func inOrder(l []api.Op) []api.Op {
	places := make([]int, len(l))
	for i := range places {
		places[i] = i
	}
	slices.SortFunc(places, func(i, j int) int {
		return cmp.Or(byId(l[i].Id, l[j].Id), cmp.Compare(i, j))
	})
	out := make([]api.Op, len(l))
	for i, place := range places {
		out[i] = l[place]
	}
	return out
}

// rowLen answers how many of l, from its first on, each fit the one ahead.
func rowLen(l []api.Op) int {
	n := 1
	for n < len(l) && Fits(l[n-1], l[n]) {
		n++
	}
	return n
}

// pieces answers the runes of a row in operations that are full, but for the last one.
func pieces(row []api.Op) []api.Op {
	var out []api.Op
	var text strings.Builder // of the last one of out
	for _, part := range parts(row) {
		if (part.Id.Clock-row[0].Id.Clock)%api.MaxText == 0 {
			out = append(out, part)
			text.Reset()
		}
		text.WriteString(part.Text)
		out[len(out)-1].Text = text.String()
	}
	return out
}

// parts answers the operations of a row, cut wherever a piece of it ends. One is cut once at most: it is no longer than a piece.
func parts(row []api.Op) []api.Op {
	var out []api.Op
	for _, o := range row {
		ahead := int((o.Id.Clock - row[0].Id.Clock) % api.MaxText)
		n := Len(o)
		end := min(n, api.MaxText-ahead)
		head, _ := Cut(o, 0, end)
		out = append(out, head)
		if tail, more := Cut(o, end, n); more {
			out = append(out, tail)
		}
	}
	return out
}

func byId(a, b api.Id) int {
	switch {
	case ids.Less(a, b):
		return -1
	case ids.Less(b, a):
		return 1
	}
	return 0
}
