package view

import (
	"slices"
	"strings"

	"quire/api"
	"quire/marks"
	"quire/utf"
	"quire/value"
)

// Clean answers the units of l in as few runs as may be, so that lists of the same units are answered in one form.
func Clean(l []api.Run) []api.Run {
	var out []api.Run
	var text strings.Builder // of the last one of out
	for _, r := range l {
		if length(r) == 0 {
			continue
		}
		if !goesOn(out, r) {
			out = append(out, withoutText(r))
			text.Reset()
		}
		if !r.Embed {
			text.WriteString(r.Text)
			out[len(out)-1].Text = text.String()
		}
	}
	return out
}

// Cut answers the units of l from the from-th on, below the to-th.
func Cut(l []api.Run, from, to int) []api.Run {
	from = max(from, 0)
	var out []api.Run
	ahead := 0
	for _, r := range l {
		if ahead >= to {
			break
		}
		behind := ahead + length(r)
		if behind > from {
			out = append(out, piece(r, from-ahead, to-ahead))
		}
		ahead = behind
	}
	return Clean(out)
}

// Patch answers a with l in place of n units from at on.
func Patch(a []api.Run, at, n int, l []api.Run) []api.Run {
	all := lengthOf(a)
	at = min(max(at, 0), all)
	n = min(max(n, 0), all-at) // ahead of the sum, which might be too great for an int
	return Clean(slices.Concat(Cut(a, 0, at), l, Cut(a, at+n, all)))
}

// length answers how many units r has; utf says of what is no text that it has none.
func length(r api.Run) int {
	if r.Embed {
		return 1
	}
	return utf.Len(r.Text)
}

func lengthOf(l []api.Run) int {
	n := 0
	for _, r := range l {
		n += length(r)
	}
	return n
}

// goesOn answers whether r belongs in the last one of l.
func goesOn(l []api.Run, r api.Run) bool {
	return len(l) > 0 && canJoin(l[len(l)-1], r)
}

// canJoin answers whether a and b are texts with the same marks.
func canJoin(a, b api.Run) bool {
	return !a.Embed && !b.Embed && marks.Same(a.Marks, b.Marks)
}

// withoutText answers in new memory what of r isn't its text: a text's V says nothing, nor does an embed's Text.
func withoutText(r api.Run) api.Run {
	out := api.Run{Embed: r.Embed}
	if r.Embed {
		out.V = value.Clean(r.V)
	}
	for _, m := range r.Marks {
		out.Marks = append(out.Marks, api.Mark{Key: m.Key, V: value.Clean(m.V)})
	}
	return out
}

// piece answers the units of r from the from-th on, below the to-th; an embed, of which a unit is asked for, whole.
func piece(r api.Run, from, to int) api.Run {
	if !r.Embed {
		r.Text = utf.Cut(r.Text, from, to)
	}
	return r
}
