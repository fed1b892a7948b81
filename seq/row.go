package seq

import (
	"iter"
	"slices"
)

// row: things 1, 2 .. as they were added, in an order of their own, each with a length: a tree that stays flat, since which of two things is above the other hangs on a number that looks like a drawn one. Thing 0 is none: it stands ahead of all others, the tree hangs on it, and a thing with nothing on a side has it there.
type row struct{ things []thing }

type thing struct {
	up    int
	down  [2]int // the top one of those below it that stand ahead of it, and of those behind it
	long  int
	whole int // how long it is with all below it; of none: 0
}

// The sides of a thing.
const (
	front = iota
	back
)

func newRow() row { return row{things: []thing{{}}} }

func (r *row) clone() row { return row{things: slices.Clone(r.things)} }

func (r *row) top() int { return r.things[0].down[back] }

func (r *row) length() int { return r.things[r.top()].whole }

func (r *row) lengthOf(i int) int { return r.things[i].long }

// at answers the thing that is over a place, and how much of it is ahead of the place; none, if the place is below 0 or not below the row's length.
func (r *row) at(place int) (i, within int) {
	i = r.top()
	for i != 0 {
		t := r.things[i]
		place -= r.things[t.down[front]].whole
		switch {
		case place < 0:
			place += r.things[t.down[front]].whole
			i = t.down[front]
		case place < t.long:
			return i, place
		default:
			place -= t.long
			i = t.down[back]
		}
	}
	return 0, 0
}

// ahead answers how long all things ahead of i are.
func (r *row) ahead(i int) int {
	n := r.things[r.things[i].down[front]].whole
	for ; i != 0; i = r.things[i].up {
		if r.side(i) == back {
			up := r.things[r.things[i].up]
			n += r.things[up.down[front]].whole + up.long
		}
	}
	return n
}

// last answers the last thing that a question holds of, one that holds of all ahead of such a thing; none, if it holds of none.
func (r *row) last(holds func(i int) bool) int {
	found := 0
	for i := r.top(); i != 0; {
		if holds(i) {
			found, i = i, r.things[i].down[back]
		} else {
			i = r.things[i].down[front]
		}
	}
	return found
}

// all gives the things as they stand.
func (r *row) all() iter.Seq[int] {
	return func(yield func(int) bool) {
		for i := r.next(0); i != 0; i = r.next(i) {
			if !yield(i) {
				return
			}
		}
	}
}

// next answers the thing behind i.
func (r *row) next(i int) int {
	if below := r.things[i].down[back]; below != 0 {
		return r.first(below)
	}
	for i != 0 && r.side(i) == back {
		i = r.things[i].up
	}
	return r.things[i].up
}

// first answers the foremost of i and all below it.
func (r *row) first(i int) int {
	for r.things[i].down[front] != 0 {
		i = r.things[i].down[front]
	}
	return i
}

// add adds a thing right behind i.
func (r *row) add(i, long int) {
	added := len(r.things)
	r.things = append(r.things, thing{})
	if below := r.things[i].down[back]; below != 0 {
		r.hang(r.first(below), front, added)
	} else {
		r.hang(i, back, added)
	}
	r.grow(added, long)
	for up := r.things[added].up; up != 0 && drawn(up) < drawn(added); up = r.things[added].up {
		r.lift(added)
	}
}

// grow makes i longer by n, which may be below 0.
func (r *row) grow(i, n int) {
	r.things[i].long += n
	for ; i != 0; i = r.things[i].up {
		r.things[i].whole += n
	}
}

func (r *row) side(i int) int {
	if r.things[r.things[i].up].down[back] == i {
		return back
	}
	return front
}

func (r *row) hang(up, side, i int) {
	r.things[up].down[side] = i
	if i != 0 {
		r.things[i].up = up
	}
}

// lift turns i and the thing above it, so that i is above; all stand as they stood.
func (r *row) lift(i int) {
	up, side := r.things[i].up, r.side(i)
	between := r.things[i].down[1-side]
	r.hang(r.things[up].up, r.side(up), i)
	r.hang(i, 1-side, up)
	r.hang(up, side, between)
	r.count(up)
	r.count(i)
}

func (r *row) count(i int) {
	t := r.things[i]
	r.things[i].whole = r.things[t.down[front]].whole + t.long + r.things[t.down[back]].whole
}

// drawn answers a number that looks like a drawn one, another one for each i: the bits of i, mixed.
func drawn(i int) uint64 {
	x := uint64(i) * 0x9E3779B97F4A7C15
	x = (x ^ x>>30) * 0xBF58476D1CE4E5B9
	x = (x ^ x>>27) * 0x94D049BB133111EB
	return x ^ x>>31
}
