package doc

import (
	"iter"
	"maps"
	"slices"
	"sort"

	"quire/api"
	"quire/ids"
)

// turned: the turns of ids, by clients, each one's in ids.Turns' form.
type turned map[uint64][]api.Turn

// join joins l with the turns that are there, and answers whether any is above those. An old document has many, an update few that stand together: of a client's only the stretch that they fall in is joined with them.
func (t turned) join(l []api.Turn) bool {
	news := false
	for client, some := range byClients(ids.Turns(l)) {
		own := t[client]
		from, to := stretch(own, some[0].From, some[len(some)-1].To)
		if len(ids.Above(some, own[from:to])) > 0 {
			t[client] = slices.Replace(own, from, to, ids.JoinTurns(own[from:to], some)...)
			news = true
		}
	}
	return news
}

// all answers the turns of all clients, in ids.Turns' form.
func (t turned) all() []api.Turn {
	var out []api.Turn
	for _, client := range slices.Sorted(maps.Keys(t)) {
		out = append(out, t[client]...)
	}
	return out
}

// byClients gives the turns of each client of l, which is in ids.Turns' form.
func byClients(l []api.Turn) iter.Seq2[uint64, []api.Turn] {
	return func(yield func(uint64, []api.Turn) bool) {
		for rest := l; len(rest) > 0; {
			client := rest[0].Client
			n := sort.Search(len(rest), func(i int) bool { return rest[i].Client > client })
			if !yield(client, rest[:n]) {
				return
			}
			rest = rest[n:]
		}
	}
}

// stretch answers from which place on, below which, the turns l of one client touch these clocks or overlap them: all others stay as they are, whatever comes there.
func stretch(l []api.Turn, first, end uint64) (from, to int) {
	from = sort.Search(len(l), func(i int) bool { return l[i].To >= first })
	to = sort.Search(len(l), func(i int) bool { return l[i].From > end })
	return from, to
}
