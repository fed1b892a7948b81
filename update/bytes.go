package update

import (
	"math"

	"quire/api"
	"quire/ops"
	"quire/value"
	"quire/wire"
)

// first is the byte that each update begins with.
const first = 0x51

// Write answers u's bytes, or why it has none.
func Write(u api.Update) ([]byte, api.Errno) {
	for _, o := range u.Ops {
		if ops.Check(o) != api.OK {
			return nil, api.ErrOpForm
		}
	}
	if len(u.Ops) > api.MaxOps || len(u.Turns) > api.MaxOps {
		return nil, api.ErrUpdateForm
	}
	b := written(Clean(u))
	if len(b) > api.MaxBytes {
		return nil, api.ErrUpdateForm
	}
	return b, api.OK
}

func written(u api.Update) []byte {
	var w wire.Writer
	w.Byte(first)
	w.Uint(uint64(len(u.Ops)))
	for _, o := range u.Ops {
		writeOp(&w, o)
	}
	w.Uint(uint64(len(u.Turns)))
	for _, t := range u.Turns {
		w.Uint(t.Client)
		w.Uint(t.From)
		w.Uint(t.To)
		w.Uint(t.N)
	}
	return w.Bytes()
}

func writeOp(w *wire.Writer, o api.Op) {
	w.Byte(byte(o.Kind))
	writeId(w, o.Id)
	switch o.Kind {
	case api.OpText:
		writeId(w, o.Left)
		writeId(w, o.Right)
		w.Text(o.Text)
	case api.OpEmbed:
		writeId(w, o.Left)
		writeId(w, o.Right)
		value.Write(w, o.V)
	case api.OpMark:
		w.Uint(o.Stamp)
		writeAnchor(w, o.From)
		writeAnchor(w, o.To)
		w.Text(o.Key)
		value.Write(w, o.V)
	case api.OpSet:
		w.Uint(o.Stamp)
		writeId(w, o.Parent)
		w.Text(o.Key)
		value.Write(w, o.V)
	}
}

func writeId(w *wire.Writer, id api.Id) {
	w.Uint(id.Client)
	w.Uint(id.Clock)
}

func writeAnchor(w *wire.Writer, a api.Anchor) {
	writeId(w, a.Id)
	after := byte(0)
	if a.After {
		after = 1
	}
	w.Byte(after)
}

// Read answers the update whose bytes b are, or that there is none.
func Read(b []byte) (u api.Update, e api.Errno) {
	defer func() {
		if thrown := recover(); thrown != nil {
			e = errnoOf(thrown)
		}
	}()
	must(len(b) <= api.MaxBytes)
	r := reading{wire.NewReader(b)}
	told := r.update()
	from := api.Update{Ops: sources(told.Ops), Turns: told.Turns}
	clean := Clean(from)
	// Each update that is clean has bytes of its own: what is clean of nothing was written by nobody, wrong numbers, wrong texts and wrong order alike.
	must(r.in.Left() == 0 && alike(told, clean) && len(from.Ops) <= api.MaxOps && fewest(clean.Turns) <= api.MaxOps)
	return clean, api.OK
}

// broken is a type of the package's own, so that a recover tells what must threw from every other panic.
type broken struct{ errno api.Errno }

// must ends the reading, if what bytes of an update have doesn't hold.
func must(holds bool) {
	if !holds {
		panic(broken{api.ErrUpdateForm})
	}
}

// errnoOf lets what must didn't throw go on: a fault of the program isn't to pass for one of the bytes.
func errnoOf(thrown any) api.Errno {
	b, ok := thrown.(broken)
	if !ok {
		panic(thrown)
	}
	return b.errno
}

// reading reads an update's parts, and ends at the first one that can't be read. What it reads has bounds of its own, which are asked of all of it at the end.
type reading struct{ in *wire.Reader }

func (r reading) update() (u api.Update) {
	must(r.byte() == first)
	for range r.number(api.MaxOps) {
		u.Ops = append(u.Ops, r.op())
	}
	for range r.number(math.MaxUint64) {
		u.Turns = append(u.Turns, r.turn())
	}
	return u
}

func (r reading) op() api.Op {
	o := api.Op{Kind: int(r.byte()), Id: r.id()}
	switch o.Kind {
	case api.OpText:
		o.Left, o.Right = r.id(), r.id()
		o.Text = r.text()
	case api.OpEmbed:
		o.Left, o.Right = r.id(), r.id()
		o.V = r.value()
	case api.OpMark:
		o.Stamp = r.number(api.MaxId)
		o.From, o.To = r.anchor(), r.anchor()
		o.Key = r.text()
		o.V = r.value()
	case api.OpSet:
		o.Stamp = r.number(api.MaxId)
		o.Parent = r.id()
		o.Key = r.text()
		o.V = r.value()
	}
	return o
}

func (r reading) turn() api.Turn {
	id := r.id()
	return api.Turn{Client: id.Client, From: id.Clock, To: r.number(api.MaxId + 1), N: r.number(api.MaxId)}
}

func (r reading) id() api.Id {
	return api.Id{Client: r.number(api.MaxId), Clock: r.number(api.MaxId)}
}

func (r reading) anchor() api.Anchor {
	id, after := r.id(), r.byte()
	must(after <= 1)
	return api.Anchor{Id: id, After: after == 1}
}

func (r reading) number(most uint64) uint64 {
	n := r.in.Uint(most)
	r.goesOn()
	return n
}

func (r reading) byte() byte {
	b := r.in.Byte()
	r.goesOn()
	return b
}

func (r reading) text() string {
	s := r.in.Text(api.MaxBytes)
	r.goesOn()
	return s
}

func (r reading) value() api.Value {
	v := value.Read(r.in)
	r.goesOn()
	return v
}

func (r reading) goesOn() { must(r.in.Err() == api.OK) }

// fewest answers how many turns at least tell what l, which is clean, tells. They may be fewer than l has, so that an update of no more than MaxOps may have more than that once it is clean: a turn over many ids is cut by those above it.
func fewest(l []api.Turn) int {
	n := 0
	var under []uint64 // the turns that may go on here, each one above the one ahead
	for i, t := range l {
		if i > 0 && !touch(l[i-1], t) {
			under = nil
		}
		for len(under) > 0 && under[len(under)-1] > t.N {
			under = under[:len(under)-1]
		}
		if len(under) == 0 || under[len(under)-1] < t.N {
			under = append(under, t.N)
			n++
		}
	}
	return n
}

func touch(a, b api.Turn) bool { return a.Client == b.Client && a.To == b.From }
