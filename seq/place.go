package seq

import (
	"sort"

	"quire/api"
	"quire/ids"
)

// between answers the places that u may come to, from the one behind its Left to that of its Right, and whether these are there, in this order.
func (s *Seq) between(u api.Unit) (from, to int, there bool) {
	from, to = s.Find(u.Left)+1, s.rightOf(u)
	if from == 0 && u.Left != (api.Id{}) || to < from {
		return 0, 0, false
	}
	return from, to, true
}

// rightOf answers the place of u's Right; none is behind all; -1: it isn't there.
func (s *Seq) rightOf(u api.Unit) int {
	if u.Right == (api.Id{}) {
		return s.Len()
	}
	return s.Find(u.Right)
}

// parentOf answers the parent of u, whose origins are there, and whether u is a left child of it.
func (s *Seq) parentOf(u api.Unit) (parent spot, left bool) {
	ahead := s.spotOf(u.Left) // without a Left the root, and all units are below that
	if u.Right == (api.Id{}) {
		return ahead, false
	}
	behind := s.spotOf(u.Right)
	if _, below := s.childOver(ahead, behind); below {
		return behind, true
	}
	return ahead, false
}

// placeOf answers the place that u comes to: ahead of the first unit, from the place from on below to, that is below a later child of u's parent. Of these units all that are below the parent stand next to it: at the end, if it is u's Right (u is a left child), else at the beginning.
func (s *Seq) placeOf(u api.Unit, parent spot, left bool, from, to int) int {
	return from + sort.Search(to-from, func(i int) bool {
		child, below := s.childOver(parent, s.spotAt(from+i))
		if !below {
			return !left
		}
		return s.isAhead(u, s.unit(child))
	})
}

// isAhead answers whether u stands ahead of another child of its parent, on the same side. (Left children are all of one Right, their parent.)
func (s *Seq) isAhead(u, other api.Unit) bool {
	if u.Right == other.Right {
		return ids.Less(u.Id, other.Id)
	}
	return s.rightOf(u) > s.rightOf(other)
}

// lay lays n units at a place: they go on with the run of the piece ahead, or are a new one.
func (s *Seq) lay(place int, u api.Unit, parent spot, n int) {
	ahead := s.cut(place)
	if s.unit(s.endOf(ahead)) == u {
		s.order.grow(ahead, n)
		return
	}
	s.addPiece(ahead, s.pieceOf(u.Id), s.addRun(u, parent), n)
}

// cut cuts the piece that goes on over a place, if one does, and answers the one that ends there.
func (s *Seq) cut(place int) int {
	i, within := s.order.at(place - 1)
	if rest := s.order.lengthOf(i) - within - 1; rest > 0 {
		s.order.grow(i, -rest)
		s.addPiece(i, i, s.endOf(i), rest)
	}
	return i
}

// endOf answers the spot behind a piece's last unit.
func (s *Seq) endOf(i int) spot {
	x := s.pieces[i]
	x.at += uint64(s.order.lengthOf(i))
	return x
}

// addPiece adds a piece of n units: behind one piece as they stand, behind another by ids.
func (s *Seq) addPiece(standing, byId int, first spot, n int) {
	s.pieces = append(s.pieces, first)
	s.order.add(standing, n)
	s.index.add(byId, 0)
}
