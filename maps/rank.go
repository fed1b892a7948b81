package maps

import (
	"quire/api"
	"quire/marks"
)

// rank: the sets of one key of a map, as a heap: the two below place i, 2i + 1 and 2i + 2, are less than it. So sets may come in any order at little cost, and the greatest one that is shown is found by going past hidden ones alone.
type rank []api.Op

// with answers r and o; r itself isn't to be used any more.
func (r rank) with(o api.Op) rank {
	r = append(r, o)
	for i := len(r) - 1; i > 0; {
		above := (i - 1) / 2
		if !marks.Less(r[above], r[i]) {
			break
		}
		r[above], r[i] = r[i], r[above]
		i = above
	}
	return r
}

// greatest answers the greatest set that is shown, and whether there is one.
func (r rank) greatest(isShown func(api.Id) bool) (api.Op, bool) {
	i := r.from(0, isShown)
	if i < 0 {
		return api.Op{}, false
	}
	return r[i], true
}

// from answers the place of the greatest set that is shown, of those at place i and below it; -1: none is.
func (r rank) from(i int, isShown func(api.Id) bool) int {
	if i >= len(r) {
		return -1
	}
	if isShown(r[i].Id) {
		return i
	}
	left, right := r.from(2*i+1, isShown), r.from(2*i+2, isShown)
	if left < 0 || right >= 0 && marks.Less(r[left], r[right]) {
		return right
	}
	return left
}
