package ids

import "quire/api"

// blend answers, of two lists in Turns' form, the turns that pick makes of each id's turns in
// both, in that form; 0: none. It goes by pieces: through each of them neither list changes.
func blend(a, b []api.Turn, pick func(x, y uint64) uint64) []api.Turn {
	var out []api.Turn
	x, y := rowOf(a), rowOf(b)
	for x.more() || y.more() {
		at := x.start()
		if Less(y.start(), at) {
			at = y.start()
		}
		to := min(x.change(at), y.change(at))
		n := pick(x.take(at, to), y.take(at, to))
		out = lay(out, api.Turn{Client: at.Client, From: at.Clock, To: to, N: n})
	}
	return out
}

func greater(x, y uint64) uint64 { return max(x, y) }

func lesser(x, y uint64) uint64 { return min(x, y) }

func ifAbove(x, y uint64) uint64 {
	if x > y {
		return x
	}
	return 0
}

// lay adds t behind l, as part of l's last turn where it goes on with that.
func lay(l []api.Turn, t api.Turn) []api.Turn {
	if t.N == 0 {
		return l
	}
	if len(l) > 0 && !follows(l[len(l)-1], t) {
		l[len(l)-1].To = t.To
		return l
	}
	return append(l, t)
}

// row: a list in Turns' form, what was taken of it cut off.
type row struct {
	head api.Turn
	rest []api.Turn
}

// A row at its end stands at a client behind all that there are.
func endOfRow() api.Turn { return api.Turn{Client: api.MaxId + 1} }

func rowOf(l []api.Turn) *row {
	r := &row{rest: l}
	r.next()
	return r
}

func (r *row) next() {
	if len(r.rest) == 0 {
		r.head = endOfRow()
		return
	}
	r.head, r.rest = r.rest[0], r.rest[1:]
}

func (r *row) more() bool { return r.head != endOfRow() }

func (r *row) start() api.Id { return api.Id{Client: r.head.Client, Clock: r.head.From} }

// change answers the first clock behind at, of its client, where the row's turn is another one.
func (r *row) change(at api.Id) uint64 {
	switch {
	case r.head.Client != at.Client:
		return api.MaxId + 1
	case r.head.From > at.Clock:
		return r.head.From
	}
	return r.head.To
}

// take cuts off what the row tells from at to to, and answers its turn there; 0: none.
func (r *row) take(at api.Id, to uint64) uint64 {
	if r.start() != at {
		return 0
	}
	n := r.head.N
	r.head.From = to
	if r.head.From == r.head.To {
		r.next()
	}
	return n
}
