package edit_test

import (
	"slices"
	"strings"
	"testing"

	"quire/api"
	"quire/doc"
	"quire/edit"
	"quire/ids"
	"quire/ops"
	"quire/view"
)

// does: what the edit tells is told to the document where it was made, and must do there what the edit says.
func does(t *testing.T, d *doc.Doc, client uint64, e api.Edit) api.Update {
	t.Helper()
	u, errno := ask(t, d, client, e)
	if errno != api.OK {
		t.Fatalf("%v: %v", e, errno)
	}
	checkDone(t, d, e, u)
	return u
}

// checkDone: P15.2: u, which e told, is told to the document: it is ready, it does what e says, and nothing else.
func checkDone(t *testing.T, d *doc.Doc, e api.Edit, u api.Update) {
	t.Helper()
	waiting, units, before := d.Waiting(), d.Units(), d.View()
	if news, errno := d.Apply(u); !news || errno != api.OK || d.Waiting() != waiting {
		t.Fatalf("P15.2: %v: Apply %v: %t, %v, %d wait, not %d", e, short(u), news, errno, d.Waiting(), waiting)
	}
	for _, o := range u.Ops {
		if d.Void(o.Id) || edit.Next(d, o.Id.Client) != ops.Range(o).To {
			t.Fatalf("P15.2: %v: it is void, or isn't known: %v", e, short(u))
		}
	}
	switch e.Kind {
	case api.EditInsert, api.EditEmbed:
		checkInserted(t, d, e, u.Ops[0], units, before)
	case api.EditDelete:
		checkLooks(t, d, e, slices.Delete(slices.Clone(units), e.At, e.At+e.N), api.View{Runs: view.Patch(before.Runs, e.At, e.N, nil), Map: before.Map})
	case api.EditMark:
		checkLooks(t, d, e, units, api.View{Runs: marked(before.Runs, e), Map: before.Map})
	case api.EditSet:
		checkLooks(t, d, e, units, api.View{Runs: before.Runs, Map: laid(before.Map, e.Path, e.Key, e.V)})
		checkFound(t, d, e, u.Ops[0])
	}
}

func checkLooks(t *testing.T, d *doc.Doc, e api.Edit, units []api.Id, want api.View) {
	t.Helper()
	if got := d.Units(); !slices.Equal(got, units) {
		t.Fatalf("P15.2: %v: units %v, not %v", e, got, units)
	}
	if got := d.View(); !exactView(got, want) {
		t.Fatalf("P15.2: %v: %v, not %v", e, got, want)
	}
}

// checkInserted: what stands at the place is what was inserted; without it all is as it was.
func checkInserted(t *testing.T, d *doc.Doc, e api.Edit, o api.Op, units []api.Id, before api.View) {
	t.Helper()
	fresh := slices.Collect(ids.All([]api.Range{ops.Range(o)}))
	if got, want := d.Units(), slices.Insert(slices.Clone(units), e.At, fresh...); !slices.Equal(got, want) {
		t.Fatalf("P15.2: %v: units %v, not %v", e, got, want)
	}
	after := d.View()
	if got := view.Patch(after.Runs, e.At, len(fresh), nil); !exactRuns(got, before.Runs) || !exactEntries(after.Map, before.Map) {
		t.Fatalf("P15.2: %v: others: %v, not %v", e, got, before.Runs)
	}
	in := view.Cut(after.Runs, e.At, e.At+len(fresh))
	if e.Kind == api.EditInsert && view.Plain(api.View{Runs: in}) != e.Text || slices.ContainsFunc(in, func(r api.Run) bool {
		return r.Embed != (e.Kind == api.EditEmbed) || r.Embed && !alike(r.V, oneNaN(e.V))
	}) {
		t.Fatalf("P15.2: %v: at its place stands %v", e, in)
	}
}

// marked: runs as they look once that a mark is laid over some of their units.
func marked(l []api.Run, e api.Edit) []api.Run {
	over := view.Cut(l, e.At, e.At+e.N)
	for i := range over {
		others := slices.DeleteFunc(over[i].Marks, func(m api.Mark) bool { return m.Key == e.Key })
		if e.V.Kind != api.ValNull {
			others = append(others, api.Mark{Key: e.Key, V: oneNaN(e.V)})
		}
		slices.SortFunc(others, func(a, b api.Mark) int { return strings.Compare(a.Key, b.Key) })
		over[i].Marks = others
	}
	return view.Patch(l, e.At, e.N, over)
}

// laid: entries as they look once that a value is laid at a key of the map at a path; a map is laid without entries.
func laid(l []api.Entry, path []string, key string, v api.Value) []api.Entry {
	l = slices.Clone(l)
	if len(path) > 0 {
		for i, x := range l {
			if x.Key == path[0] {
				l[i].Kids = laid(x.Kids, path[1:], key, v)
			}
		}
		return l
	}
	l = slices.DeleteFunc(l, func(x api.Entry) bool { return x.Key == key })
	if v.Kind != api.ValNull {
		l = append(l, api.Entry{Key: key, V: oneNaN(v)})
	}
	slices.SortFunc(l, func(a, b api.Entry) int { return strings.Compare(a.Key, b.Key) })
	return l
}

// checkFound: the set is the one that its key tells; a map is found by its path.
func checkFound(t *testing.T, d *doc.Doc, e api.Edit, o api.Op) {
	t.Helper()
	m := d.Maps()
	if got, there := m.Get(o.Parent, o.Key); there != (o.V.Kind != api.ValNull) || there && !exactOp(got, o) {
		t.Fatalf("P15.2: %v: Get: %v, %t, not %v", e, got, there, o)
	}
	if got, there := m.Find(append(slices.Clone(e.Path), e.Key)); there != (o.V.Kind == api.ValMap) || there && got != o.Id {
		t.Fatalf("P15.2: %v: Find: %v, %t, not %v", e, got, there, o.Id)
	}
}
