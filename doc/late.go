package doc

import (
	"iter"
	"maps"
	"slices"
	"sort"

	"quire/api"
	"quire/ids"
	"quire/ops"
)

// late: the operations that wait, in pieces: no clock waits twice.
type late struct {
	lines  map[uint64][]*piece // by clients of whom some wait, in the order of their clocks
	asked  map[api.Id][]uint64 // by ids that aren't known: the clients whose next operation needs it
	clocks int                 // how many wait
}

// piece: an operation that waits, or a piece of one. It never changes.
type piece struct {
	op  api.Op
	own api.Range // its ids, lest its runes be counted each time that one is sought
}

func newLate() *late { return &late{lines: map[uint64][]*piece{}, asked: map[api.Id][]uint64{}} }

func (l *late) clone() *late {
	return &late{lines: cloneLists(l.lines), asked: cloneLists(l.asked), clocks: l.clocks}
}

// all gives the operations that wait, by clients and clocks.
func (l *late) all() iter.Seq[api.Op] {
	return func(yield func(api.Op) bool) {
		for _, client := range slices.Sorted(maps.Keys(l.lines)) {
			for _, p := range l.lines[client] {
				if !yield(p.op) {
					return
				}
			}
		}
	}
}

// put lets wait what of o doesn't, and answers the ids of that.
func (l *late) put(o api.Op) []api.Range {
	own := ops.Range(o)
	news := ids.Minus([]api.Range{own}, l.over(own))
	for _, r := range news {
		op, _ := ops.Cut(o, int(r.From-own.From), int(r.To-own.From))
		line := l.lines[r.Client]
		l.lines[r.Client] = slices.Insert(line, seek(line, r.From), &piece{op, r})
		l.clocks += int(r.To - r.From)
	}
	return news
}

// over answers the ids of the pieces that have any of these.
func (l *late) over(own api.Range) []api.Range {
	var out []api.Range
	line := l.lines[own.Client]
	for _, p := range line[seek(line, own.From):] {
		if p.own.From >= own.To {
			break
		}
		out = append(out, p.own)
	}
	return out
}

// seek answers the place of the first piece that ends behind a clock.
func seek(line []*piece, clock uint64) int {
	return sort.Search(len(line), func(i int) bool { return line[i].own.To > clock })
}

// first answers what waits of a client's first clock that does, and whether any does.
func (l *late) first(client uint64) (api.Op, bool) {
	line := l.lines[client]
	if len(line) == 0 {
		return api.Op{}, false
	}
	return line[0].op, true
}

// drop lets a client's first operation wait no more. There must be one.
func (l *late) drop(client uint64) {
	line := l.lines[client]
	l.clocks -= int(line[0].own.To - line[0].own.From)
	if len(line) == 1 {
		delete(l.lines, client)
		return
	}
	line[0] = nil // the list begins behind it, but its memory doesn't
	l.lines[client] = line[1:]
}

// ask notes that a client's next operation needs id, which isn't known.
func (l *late) ask(id api.Id, client uint64) { l.asked[id] = append(l.asked[id], client) }

// woken answers the clients who asked for one of these ids, which are known now; they ask no more.
func (l *late) woken(known api.Range) []uint64 {
	if len(l.asked) == 0 { // a long text needn't be gone through for nobody
		return nil
	}
	var out []uint64
	for id := range ids.All([]api.Range{known}) {
		if who, some := l.asked[id]; some {
			out = append(out, who...)
			delete(l.asked, id)
		}
	}
	return out
}
