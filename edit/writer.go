package edit

import (
	"sort"

	"quire/api"
	"quire/doc"
	"quire/ids"
	"quire/ops"
	"quire/utf"
	"quire/value"
)

// writer: a client, and the document that it writes in. What its methods find wrong they throw, each edit's faults in the chapter's order.
type writer struct {
	d      *doc.Doc
	client uint64
}

func (w writer) tell(e api.Edit) api.Update {
	switch e.Kind {
	case api.EditInsert:
		return w.insert(e)
	case api.EditEmbed:
		return w.embed(e)
	case api.EditDelete:
		return w.remove(e)
	case api.EditMark:
		return w.mark(e)
	case api.EditSet:
		return w.set(e)
	}
	panic(broken{api.ErrEditKind})
}

func (w writer) insert(e api.Edit) api.Update {
	left, right := w.around(e.At)
	n := utf.Len(e.Text) // 0, if it is no text
	must(n >= 1 && n <= api.MaxText, api.ErrEditText)
	return w.fresh(api.Op{Kind: api.OpText, Left: left, Right: right, Text: e.Text})
}

func (w writer) embed(e api.Edit) api.Update {
	left, right := w.around(e.At)
	checkShown(e.V)
	return w.fresh(api.Op{Kind: api.OpEmbed, Left: left, Right: right, V: e.V})
}

func (w writer) remove(e api.Edit) api.Update {
	units := w.units(e.At, e.N)
	turned := w.d.Turns()
	var out []api.Turn
	for _, id := range units {
		n := turnOf(turned, id) + 1
		must(n <= api.MaxId, api.ErrEditClock)
		out = append(out, api.Turn{Client: id.Client, From: id.Clock, To: id.Clock + 1, N: n})
	}
	return api.Update{Turns: ids.Turns(out)}
}

func (w writer) mark(e api.Edit) api.Update {
	units := w.units(e.At, e.N)
	checkKey(e.Key)
	checkShown(e.V)
	from, to := api.Anchor{Id: units[0]}, api.Anchor{Id: units[len(units)-1], After: true}
	return w.fresh(api.Op{Kind: api.OpMark, Stamp: w.d.Stamp() + 1, Key: e.Key, V: e.V, From: from, To: to})
}

func (w writer) set(e api.Edit) api.Update {
	checkKey(e.Key)
	parent, there := w.d.Maps().Find(e.Path)
	must(there, api.ErrEditPath)
	must(value.Check(e.V) == api.OK, api.ErrEditText)
	return w.fresh(api.Op{Kind: api.OpSet, Stamp: w.d.Stamp() + 1, Key: e.Key, V: e.V, Parent: parent})
}

// fresh tells an operation by the client's next clocks. All but these and the stamp was asked for: it is they that ops.Check can still refuse, above MaxId.
func (w writer) fresh(o api.Op) api.Update {
	o.Id = api.Id{Client: w.client, Clock: Next(w.d, w.client)}
	o.V = value.Clean(o.V)
	must(ops.Check(o) == api.OK, api.ErrEditClock)
	return api.Update{Ops: []api.Op{o}}
}

// around answers the unit ahead of a place, and the one right behind that, deleted or not; zeros: there is none.
func (w writer) around(at int) (left, right api.Id) {
	units := w.d.Units()
	must(at >= 0 && at <= len(units), api.ErrEditPlace)
	if at > 0 {
		left = units[at-1]
	}
	s := w.d.Seq()
	behind, _ := s.At(s.Find(left) + 1) // of zeros Find answers -1
	return left, behind.Id
}

// units answers the n units from a place on, one at least.
func (w writer) units(at, n int) []api.Id {
	units := w.d.Units()
	must(n >= 1 && at >= 0 && at <= len(units)-n, api.ErrEditPlace)
	return units[at : at+n]
}

// turnOf asks the one of l, which is in ids.Turns' form, that can tell of id: ids.TurnOf of all of them would go through each.
func turnOf(l []api.Turn, id api.Id) uint64 {
	behind := sort.Search(len(l), func(i int) bool {
		return ids.Less(id, api.Id{Client: l[i].Client, Clock: l[i].From})
	})
	return ids.TurnOf(l[max(behind-1, 0):behind], id)
}

func checkKey(key string) {
	must(len(key) >= 1 && len(key) <= api.MaxKey && utf.Check(key), api.ErrEditKey)
}

// checkShown: what embeds and marks show is no map.
func checkShown(v api.Value) {
	must(value.Check(v) == api.OK && v.Kind != api.ValMap, api.ErrEditText)
}
