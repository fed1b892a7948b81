package store

import (
	"quire/api"
	"quire/ids"
	"quire/ops"
)

// client: what is known of a client, from its first clock on without a gap, and what waits.
type client struct {
	id    uint64
	rows  []*row
	waits list[*waiter]
}

// waiter: an operation that waits, or a piece of one.
type waiter struct {
	op  api.Op
	own api.Range // those of its ids that wait: all, or its end, where what is ahead has become known; it is cut to them only when it is taken, lest its runes be counted each time that one becomes known
}

func (c *client) span() (from, to uint64) { return c.id, c.id + 1 }

func (w *waiter) span() (from, to uint64) { return w.own.From, w.own.To }

func (w *waiter) clocks() int { return int(w.own.To - w.own.From) }

// rest answers what of its operation waits.
func (w *waiter) rest() api.Op {
	first := w.op.Id.Clock
	o, _ := ops.Cut(w.op, int(w.own.From-first), int(w.own.To-first))
	return o
}

// known answers how many clocks are.
func (c *client) known() uint64 {
	if len(c.rows) == 0 {
		return 0
	}
	_, to := c.rows[len(c.rows)-1].span()
	return to - 1
}

func (c *client) isEmpty() bool {
	_, ok := c.waits.first()
	return !ok && len(c.rows) == 0
}

// isReady answers whether one waits with no unknown clock ahead of it: if one does, the first one that waits does.
func (c *client) isReady() bool {
	w, ok := c.waits.first()
	return ok && w.own.From == c.known()+1
}

// news answers what of o isn't known; none, if all is, or if clocks ahead of o aren't.
func (c *client) news(o api.Op) (api.Op, bool) {
	next := c.known() + 1
	if o.Id.Clock > next {
		return api.Op{}, false
	}
	return ops.Cut(o, int(next-o.Id.Clock), ops.Len(o))
}

// learn makes o known, which begins at the first clock that isn't.
func (c *client) learn(o api.Op) {
	last := len(c.rows) - 1
	if last < 0 || !c.rows[last].fits(o) {
		c.rows = append(c.rows, newRow(o))
		return
	}
	c.rows[last].add(o.Text)
}

// release lets wait no more what is known, and answers how many clocks that has.
func (c *client) release() int {
	clocks := 0
	next := c.known() + 1
	for w, ok := c.waits.first(); ok && w.own.From < next; w, ok = c.waits.first() {
		if w.own.To > next {
			clocks += int(next - w.own.From)
			w.own.From = next
			break
		}
		clocks += w.clocks()
		c.waits.drop(w.own.From)
	}
	return clocks
}

// take answers the first one that waits: it waits no more. There must be one.
func (c *client) take() *waiter {
	w, _ := c.waits.first()
	c.waits.drop(w.own.From)
	return w
}

func (c *client) get(clock uint64) (api.Op, bool) {
	if clock < 1 || clock > c.known() {
		return api.Op{}, false
	}
	r := c.rows[seek(c.rows, clock)]
	at := r.place(clock)
	return r.cut(at, at+1), true
}

// since answers what is known from a clock on, one that is known. Rows are as long as can be, so that their pieces are ops.Join's form.
func (c *client) since(clock uint64) []api.Op {
	first := seek(c.rows, clock)
	out := c.rows[first].pieces(c.rows[first].place(clock))
	for _, r := range c.rows[first+1:] {
		out = append(out, r.pieces(0)...)
	}
	return out
}

// wait lets wait what of o neither is known nor waits, and answers how many clocks that has.
func (c *client) wait(o api.Op) int {
	clocks := 0
	own := ops.Range(o)
	for _, r := range ids.Minus([]api.Range{own}, c.taken(own)) {
		piece, _ := ops.Cut(o, int(r.From-own.From), int(r.To-own.From))
		w := &waiter{op: piece, own: r}
		c.waits.put(w)
		clocks += w.clocks()
	}
	return clocks
}

// taken answers what is known, and what waits of these ids.
func (c *client) taken(own api.Range) []api.Range {
	out := []api.Range{{Client: c.id, From: 1, To: c.known() + 1}}
	for w := range c.waits.from(own.From) {
		if w.own.From >= own.To {
			break
		}
		out = append(out, w.own)
	}
	return out
}
