package view_test

import (
	"math"
	"slices"
	"testing"
	"unicode/utf8"

	"quire/api"
)

// unit: a rune, or an embed, with its marks: by the chapter's words, one after the other, what the program does by runs.
type unit struct {
	r     rune
	embed bool
	v     api.Value
	marks []api.Mark
}

// told: v with the one NaN.
func told(v api.Value) api.Value {
	if math.IsNaN(v.F) {
		v.F = math.Float64frombits(theNaN)
	}
	return v
}

func toldMarks(l []api.Mark) []api.Mark {
	var out []api.Mark
	for _, m := range l {
		out = append(out, mark(m.Key, told(m.V)))
	}
	return out
}

func unitsOf(l []api.Run) []unit {
	var out []unit
	for _, r := range l {
		switch {
		case r.Embed:
			out = append(out, unit{embed: true, v: told(r.V), marks: toldMarks(r.Marks)})
		case utf8.ValidString(r.Text):
			for _, c := range r.Text {
				out = append(out, unit{r: c, marks: toldMarks(r.Marks)})
			}
		}
	}
	return out
}

// sameUnit: with the one NaN values are the same if their bits are.
func sameUnit(a, b unit) bool {
	return a.r == b.r && a.embed == b.embed && alike(a.v, b.v) && slices.EqualFunc(a.marks, b.marks, exactMark)
}

// runsOf: units in as few runs as may be.
func runsOf(l []unit) []api.Run {
	var out []api.Run
	for i, u := range l {
		switch {
		case u.embed:
			out = append(out, embed(u.v, u.marks...))
		case i > 0 && !l[i-1].embed && slices.EqualFunc(l[i-1].marks, u.marks, exactMark):
			out[len(out)-1].Text += string(u.r)
		default:
			out = append(out, text(string(u.r), u.marks...))
		}
	}
	return out
}

func within(n, most int) int { return min(max(n, 0), most) }

func modelCut(l []api.Run, from, to int) []api.Run {
	units := unitsOf(l)
	from, to = within(from, len(units)), within(to, len(units))
	if from >= to {
		return nil
	}
	return runsOf(units[from:to])
}

func modelPatch(a []api.Run, at, n int, l []api.Run) []api.Run {
	units := unitsOf(a)
	at = within(at, len(units))
	n = within(n, len(units)-at)
	return runsOf(slices.Concat(units[:at], unitsOf(l), units[at+n:]))
}

func modelDiff(a, b []api.Run) (int, int, []api.Run) {
	x, y := unitsOf(a), unitsOf(b)
	at := 0
	for at < len(x) && at < len(y) && sameUnit(x[at], y[at]) {
		at++
	}
	x, y = x[at:], y[at:]
	for len(x) > 0 && len(y) > 0 && sameUnit(x[len(x)-1], y[len(y)-1]) {
		x, y = x[:len(x)-1], y[:len(y)-1]
	}
	return at, len(x), runsOf(y)
}

// checkLists: each call of a and b is what the model says, and what P14.4 says.
func checkLists(t *testing.T, a, b []api.Run, from, to int) {
	t.Helper()
	if got, want := clean(t, a), runsOf(unitsOf(a)); !exactRuns(got, want) {
		t.Fatalf("Clean(%v): %v, not %v", a, got, want)
	}
	if got, want := cut(t, a, from, to), modelCut(a, from, to); !exactRuns(got, want) {
		t.Fatalf("Cut(%v, %d, %d): %v, not %v", a, from, to, got, want)
	}
	if got, want := patch(t, a, from, to, b), modelPatch(a, from, to, b); !exactRuns(got, want) {
		t.Fatalf("Patch(%v, %d, %d, %v): %v, not %v", a, from, to, b, got, want)
	}
	at, n, l := diff(t, a, b)
	if wantAt, wantN, want := modelDiff(a, b); at != wantAt || n != wantN || !exactRuns(l, want) {
		t.Fatalf("Diff(%v, %v): %d, %d, %v, not %d, %d, %v", a, b, at, n, l, wantAt, wantN, want)
	}
	if got, want := patch(t, a, at, n, l), clean(t, b); !exactRuns(got, want) {
		t.Fatalf("Patch(%v) by Diff with %v: %v, not %v", a, b, got, want)
	}
}
