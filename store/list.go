package store

import (
	"iter"
	"slices"
)

// spanned: what has a range of numbers to itself: from from on, below to.
type spanned interface {
	span() (from, to uint64)
}

// list: things in the order of their ranges, no two of which overlap. They lie in leaves, so that one that comes between others moves few of them.
type list[T spanned] struct{ leaves []leaf[T] }

// leaf: things that follow one another, one at least.
type leaf[T spanned] []T

// leafSize: how many things a leaf has at most.
const leafSize = 64

func (l leaf[T]) span() (from, to uint64) {
	from, _ = l[0].span()
	_, to = l[len(l)-1].span()
	return from, to
}

// seek answers the place of the one that has n; if none has, of the first one behind n.
func seek[T spanned](l []T, n uint64) int {
	low, high := 0, len(l)
halves:
	for low < high {
		middle := low + (high-low)/2
		from, to := l[middle].span()
		switch {
		case n < from:
			high = middle
		case n >= to:
			low = middle + 1
		default:
			low = middle
			break halves
		}
	}
	return low
}

// first answers the first one, and whether there is one.
func (l *list[T]) first() (T, bool) {
	if len(l.leaves) == 0 {
		var none T
		return none, false
	}
	return l.leaves[0][0], true
}

// from gives the one that has n, if there is one, and all behind n.
func (l *list[T]) from(n uint64) iter.Seq[T] {
	return func(yield func(T) bool) {
		for _, some := range l.leaves[seek(l.leaves, n):] {
			for _, x := range some[seek(some, n):] {
				if !yield(x) {
					return
				}
			}
		}
	}
}

// has answers whether there is one that has n.
func (l *list[T]) has(n uint64) bool {
	for x := range l.from(n) {
		from, _ := x.span()
		return from <= n
	}
	return false
}

// put lays x where its range belongs.
func (l *list[T]) put(x T) {
	n, _ := x.span()
	if len(l.leaves) == 0 {
		l.leaves = []leaf[T]{{x}}
		return
	}
	i := min(seek(l.leaves, n), len(l.leaves)-1) // behind all others it belongs in the last leaf
	l.leaves[i] = slices.Insert(l.leaves[i], seek(l.leaves[i], n), x)
	if len(l.leaves[i]) > leafSize {
		l.split(i)
	}
}

// split makes two leaves of one.
func (l *list[T]) split(i int) {
	some := l.leaves[i]
	half := len(some) / 2
	l.leaves = slices.Insert(l.leaves, i+1, slices.Clone(some[half:]))
	l.leaves[i] = slices.Delete(some, half, len(some))
}

// drop takes away the one that has n. There must be one.
func (l *list[T]) drop(n uint64) {
	i := seek(l.leaves, n)
	at := seek(l.leaves[i], n)
	l.leaves[i] = slices.Delete(l.leaves[i], at, at+1)
	if len(l.leaves[i]) == 0 {
		l.leaves = slices.Delete(l.leaves, i, i+1)
	}
}
