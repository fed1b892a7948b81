package update

import (
	"quire/api"
	"quire/ops"
)

// sources answers right operations whose Join l is, as few as can be, if there are any; else some whose Join isn't l.
func sources(l []api.Op) []api.Op {
	r := rows{open: map[api.Id]int{}}
	for _, o := range l {
		r.add(o)
	}
	var out []api.Op
	for _, x := range r.list {
		out = append(out, x.sources()...)
	}
	return out
}

// row is what Join cut in pieces.
type row struct {
	pieces []api.Op
	next   uint64 // the clock that the row behind begins with
}

func (x row) last() api.Op { return x.pieces[len(x.pieces)-1] }

// sources answers the row's runes in operations, all of them full but for the first one, so that the last one begins as early as can be. What names an id that is its own since it was joined leaves a rune by itself.
func (x row) sources() []api.Op {
	size := ops.Len(x.last())
	first, _ := ops.Cut(x.pieces[0], 0, size)
	out := []api.Op{first}
	if rest, more := ops.Cut(first, 1, size); more && ops.Check(first) != api.OK {
		first, _ = ops.Cut(first, 0, 1)
		out = []api.Op{first, rest}
	}
	for i, piece := range x.pieces[1:] {
		o, _ := ops.Cut(piece, 0, size)
		if ahead, some := ops.Cut(x.pieces[i], size, api.MaxText); some {
			ahead.Text += o.Text
			o = ahead
		}
		out = append(out, o)
	}
	return out
}

// began answers the clock that the last one of the row's sources begins with.
func (x row) began() uint64 {
	l := x.sources()
	return l[len(l)-1].Id.Clock
}

// cost answers how many sources more there are, if the last piece is a row by itself.
func (x row) cost() int {
	rest := row{pieces: x.pieces[:len(x.pieces)-1]}
	return len(rest.sources()) + 1 - len(x.sources())
}

// rows are those of the pieces that were added, in the order in which they begin. A row's sources stand together: the last one begins ahead of the next row, but may reach over what begins there, so that the row's last piece stands behind that.
type rows struct {
	list []row
	open map[api.Id]int // which ones have a full last piece, by the id behind it
	free []int          // which ones were given a piece, since the last row began, that may have begun one as well
}

// add lays o to the row that it goes on, or begins one. Where both are right, the former asks less of the row ahead and of what comes; begin makes up for it, where a row is missed.
func (r *rows) add(o api.Op) {
	place, some := r.open[o.Id]
	if some && r.takes(place, o) {
		r.list[place].pieces = append(r.list[place].pieces, o)
		r.free = append(r.free, place)
	} else {
		r.begin(o)
		place = len(r.list) - 1
	}
	if ops.Len(o) == api.MaxText {
		r.open[api.Id{Client: o.Id.Client, Clock: ops.Range(o).To}] = place
	}
}

// takes answers whether o can be of a row: of the last one it must be, if it fits, for nothing stands between that would keep Join from joining them; of others, if the last source begins ahead of the next row even so.
func (r *rows) takes(place int, o api.Op) bool {
	x := r.list[place]
	return ops.Fits(x.last(), o) && (r.isLast(place) || ops.Range(o).To < x.next+api.MaxText)
}

func (r *rows) isLast(place int) bool { return place == len(r.list)-1 }

// begin begins a row with o. If o goes on where the last row ends, a row must have begun between, for else they would have been joined.
func (r *rows) begin(o api.Op) {
	if n := len(r.list); n > 0 && ops.Fits(r.list[n-1].last(), o) {
		if place, some := r.between(o); some {
			pieces := r.list[place].pieces
			r.list[place].pieces = pieces[:len(pieces)-1]
			r.push(pieces[len(pieces)-1])
		}
	}
	r.push(o)
}

func (r *rows) push(o api.Op) {
	if n := len(r.list); n > 0 {
		r.list[n-1].next = o.Id.Clock
	}
	r.list = append(r.list, row{pieces: []api.Op{o}})
	r.free = nil
}

// between answers which free row's last piece can begin a row between the last row and o, the cheapest one, and whether there is any.
func (r *rows) between(o api.Op) (int, bool) {
	best, found := 0, false
	began := r.list[len(r.list)-1].began()
	for _, place := range r.free {
		piece := r.list[place].last()
		if began >= piece.Id.Clock || piece.Id.Clock >= o.Id.Clock || ops.Fits(piece, o) {
			continue
		}
		if !found || r.list[place].cost() < r.list[best].cost() {
			best, found = place, true
		}
	}
	return best, found
}
