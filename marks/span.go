package marks

import (
	"iter"
	"slices"

	"quire/api"
	"quire/seq"
)

// span: a mark, and the places from from on, below to, that it is over.
type span struct {
	from, to int
	o        api.Op
}

// spans gives the marks among l that are over any place.
func spans(s *seq.Seq, l []api.Op) iter.Seq[span] {
	return func(yield func(span) bool) {
		for _, o := range l {
			if o.Kind != api.OpMark {
				continue
			}
			if from, to := Over(s, o); from < to && !yield(span{from, to, o}) {
				return
			}
		}
	}
}

// won answers where which of the marks l, all of one key, wins: spans that don't overlap. The greatest mark comes first, and each next one wins the stretches that are left: those between places at which a mark begins or ends.
func won(l []span) []span {
	slices.SortStableFunc(l, greatestFirst) // of those that are as good the first one wins
	bounds := boundsOf(l)
	left := make([]int, len(bounds)) // of each stretch itself, while it is left, or a later one up to which none is
	for i := range left {
		left[i] = i
	}
	var out []span
	for _, m := range l {
		i, _ := slices.BinarySearch(bounds, m.from)
		end, _ := slices.BinarySearch(bounds, m.to)
		for i = firstLeft(left, i); i < end; i = firstLeft(left, i) {
			out = append(out, span{bounds[i], bounds[i+1], m.o})
			left[i] = i + 1
		}
	}
	return out
}

// firstLeft answers the first stretch from i on that is left, and shortens the way there for those who ask again. The last bound begins no stretch, and so is always left.
func firstLeft(left []int, i int) int {
	for left[i] != i {
		left[i] = left[left[i]]
		i = left[i]
	}
	return i
}

// boundsOf answers the places at which a span begins or ends, in order, each once.
func boundsOf(l []span) []int {
	var out []int
	for _, m := range l {
		out = append(out, m.from, m.to)
	}
	slices.Sort(out)
	return slices.Compact(out)
}

func greatestFirst(a, b span) int {
	switch {
	case Less(b.o, a.o):
		return -1
	case Less(a.o, b.o):
		return 1
	}
	return 0
}
