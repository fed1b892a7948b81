package doc

import (
	"iter"
	"strings"

	"quire/api"
	"quire/marks"
)

// Units answers the ids of the units that aren't deleted, in order.
func (d *Doc) Units() []api.Id {
	var out []api.Id
	for _, id := range d.shownUnits() {
		out = append(out, id)
	}
	return out
}

// View answers what the document looks like.
func (d *Doc) View() api.View { return api.View{Runs: d.runs(), Map: d.Maps().View()} }

// runs answers the units that aren't deleted: texts with the same marks in one, embeds alone.
func (d *Doc) runs() []api.Run {
	var out []api.Run
	var text strings.Builder // of the last one of out
	shown := marks.All(d.seq, d.Marks())
	for place, id := range d.shownUnits() {
		o, _ := d.store.Get(id)
		if !goesOn(out, o, shown[place]) {
			out = append(out, api.Run{Embed: o.Kind == api.OpEmbed, V: o.V, Marks: shown[place]})
			text.Reset()
		}
		text.WriteString(o.Text)
		out[len(out)-1].Text = text.String()
	}
	return out
}

// goesOn answers whether o, with these marks, belongs in the last one of l.
func goesOn(l []api.Run, o api.Op, shown []api.Mark) bool {
	if len(l) == 0 || o.Kind == api.OpEmbed {
		return false
	}
	last := l[len(l)-1]
	return !last.Embed && marks.Same(last.Marks, shown)
}

// shownUnits gives the places and the ids of the units that aren't deleted, in order.
func (d *Doc) shownUnits() iter.Seq2[int, api.Id] {
	return func(yield func(int, api.Id) bool) {
		deleted := d.Dels()
		for place, u := range d.seq.All() {
			if !hasId(deleted, u.Id) && !yield(place, u.Id) {
				return
			}
		}
	}
}

// shownMarks gives the marks that aren't deleted, as they became known.
func (d *Doc) shownMarks() iter.Seq[api.Op] {
	return func(yield func(api.Op) bool) {
		deleted := d.Dels()
		for _, o := range d.marks {
			if !hasId(deleted, o.Id) && !yield(o) {
				return
			}
		}
	}
}
