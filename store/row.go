package store

import (
	"quire/api"
	"quire/ops"
	"quire/utf"
)

// row: texts of which each fits the one ahead, or one operation that is no text. Runes lie apart, so that any of them is found at once and more are laid behind them without all being copied.
type row struct {
	first api.Op // without its text
	runes []rune // a text has one at least, another one none
}

func newRow(o api.Op) *row {
	r := &row{first: o}
	r.first.Text = ""
	r.add(o.Text)
	return r
}

// add lays a text's runes behind the row's.
func (r *row) add(text string) {
	for _, x := range utf.Runes(text) {
		r.runes = append(r.runes, x)
	}
}

func (r *row) clocks() int { return max(1, len(r.runes)) }

func (r *row) span() (from, to uint64) {
	from = r.first.Id.Clock
	return from, from + uint64(r.clocks())
}

// place answers how many clocks of the row are ahead of one of its own.
func (r *row) place(clock uint64) int { return int(clock - r.first.Id.Clock) }

// fits answers whether o goes on where the row ends.
func (r *row) fits(o api.Op) bool {
	n := r.clocks()
	return ops.Fits(r.cut(n-1, n), o)
}

// cut answers of the row what ops.Cut does of an operation; a row may be longer than one.
func (r *row) cut(from, to int) api.Op {
	o := r.first
	if o.Kind == api.OpText {
		o.Text = string(r.runes[from:to])
	}
	if from > 0 {
		o.Id.Clock += uint64(from)
		o.Left = api.Id{Client: o.Id.Client, Clock: o.Id.Clock - 1}
	}
	return o
}

// pieces answers the row from a place on, in operations that are full, but for the last one.
func (r *row) pieces(from int) []api.Op {
	var out []api.Op
	for n := r.clocks(); from < n; from += api.MaxText {
		out = append(out, r.cut(from, min(from+api.MaxText, n)))
	}
	return out
}
