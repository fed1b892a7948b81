package undo

import (
	"iter"
	"sort"

	"quire/api"
	"quire/doc"
	"quire/ids"
	"quire/ops"
)

// Invert answers the turns that undo step in d, and whether there are any.
func Invert(d *doc.Doc, step api.Update) (api.Update, bool) {
	hid := hidBy(step)
	now := turnIn(d.Turns())
	var out []api.Turn
	for id := range known(d, touched(step)) {
		n := now(id)
		if odd(n) != hid(id) {
			continue // it is what it is to become
		}
		if n == api.MaxId {
			return api.Update{}, false
		}
		out = append(out, api.Turn{Client: id.Client, From: id.Clock, To: id.Clock + 1, N: n + 1})
	}
	return api.Update{Turns: ids.Turns(out)}, len(out) > 0
}

// hidBy answers what tells whether a step, which touched an id, hid it. What it made it showed, even if it hid that behind: ahead of the step it wasn't there.
func hidBy(step api.Update) func(api.Id) bool {
	made := madeBy(step)
	turn := turnIn(ids.Turns(step.Turns))
	return func(id api.Id) bool { return !made(id) && odd(turn(id)) }
}

// madeBy answers what tells whether a step made an id.
func madeBy(step api.Update) func(api.Id) bool {
	own := idsOf(step.Ops)
	return func(id api.Id) bool {
		behind := sort.Search(len(own), func(i int) bool { return ids.Less(id, first(own[i])) })
		return ids.Has(own[max(behind-1, 0):behind], id) // of all of them Has would go through each
	}
}

// turnIn answers what tells an id's turn in l, which is in ids.Turns' form.
func turnIn(l []api.Turn) func(api.Id) uint64 {
	return func(id api.Id) uint64 {
		behind := sort.Search(len(l), func(i int) bool { return ids.Less(id, first(rangeOf(l[i]))) })
		return ids.TurnOf(l[max(behind-1, 0):behind], id)
	}
}

// touched answers the ids of a step's operations and turns.
func touched(step api.Update) []api.Range {
	var turned []api.Range
	for _, t := range ids.Turns(step.Turns) {
		turned = append(turned, rangeOf(t))
	}
	return ids.Join(idsOf(step.Ops), turned)
}

// idsOf answers the ids of the right ones of l.
func idsOf(l []api.Op) []api.Range {
	var out []api.Range
	for _, o := range l {
		if ops.Check(o) == api.OK {
			out = append(out, ops.Range(o))
		}
	}
	return ids.Clean(out)
}

// known gives the ids of l that d knows, but those of void operations. They are sought among d's, since a turn may tell of more ids than can be gone through.
func known(d *doc.Doc, l []api.Range) iter.Seq[api.Id] {
	var all []api.Range
	for _, c := range d.Vector() {
		all = append(all, api.Range{Client: c.Client, From: 1, To: c.Clock + 1})
	}
	return func(yield func(api.Id) bool) {
		for id := range ids.All(ids.Meet(l, all)) {
			if !d.Void(id) && !yield(id) {
				return
			}
		}
	}
}

func first(r api.Range) api.Id { return api.Id{Client: r.Client, Clock: r.From} }

func rangeOf(t api.Turn) api.Range { return api.Range{Client: t.Client, From: t.From, To: t.To} }

func odd(n uint64) bool { return n%2 == 1 }
