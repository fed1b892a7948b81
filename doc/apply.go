package doc

import (
	"sort"

	"quire/api"
	"quire/marks"
	"quire/ops"
)

// broken is a type of the package's own, so that a recover tells what refuse threw from every other panic.
type broken struct{ errno api.Errno }

func refuse() { panic(broken{api.ErrOpForm}) }

// check answers ErrOpForm, if u is one that isn't taken.
func check(u api.Update) (e api.Errno) {
	defer func() {
		if thrown := recover(); thrown != nil {
			e = errnoOf(thrown)
		}
	}()
	checkCount(len(u.Ops))
	checkCount(len(u.Turns))
	for _, o := range u.Ops {
		checkOp(o)
	}
	return api.OK
}

// errnoOf lets what refuse didn't throw go on: a fault of the program isn't to pass for one of the update.
func errnoOf(thrown any) api.Errno {
	b, ok := thrown.(broken)
	if !ok {
		panic(thrown)
	}
	return b.errno
}

func checkCount(n int) {
	if n > api.MaxOps {
		refuse()
	}
}

func checkOp(o api.Op) {
	if ops.Check(o) != api.OK {
		refuse()
	}
}

// take lets wait what of o neither is known nor waits, makes known what is ready by that, and answers whether any of o is news.
func (d *Doc) take(o api.Op) bool {
	rest, some := d.unknown(o)
	if !some {
		return false
	}
	news := d.late.put(rest)
	if len(news) == 0 {
		return false
	}
	if d.follows(api.Id{Client: news[0].Client, Clock: news[0].From}) { // else the client's next operation is still what it was
		d.settle(o.Id.Client)
	}
	return true
}

// unknown answers what of o isn't known, and whether any of it isn't: that is its end.
func (d *Doc) unknown(o api.Op) (api.Op, bool) {
	n := ops.Len(o)
	known := sort.Search(n, func(i int) bool {
		return !d.knows(api.Id{Client: o.Id.Client, Clock: o.Id.Clock + uint64(i)})
	})
	return ops.Cut(o, known, n)
}

func (d *Doc) knows(id api.Id) bool {
	_, known := d.store.Get(id)
	return known
}

// follows answers whether all clocks ahead of id are known: if the one right ahead is, all are.
func (d *Doc) follows(id api.Id) bool {
	return id.Clock == 1 || d.knows(api.Id{Client: id.Client, Clock: id.Clock - 1})
}

// settle makes known what is ready of a client whose next operation came, and then of all those whose next ones asked for what has become known. In which order doesn't matter: what is known at last is the same.
func (d *Doc) settle(client uint64) {
	for todo := []uint64{client}; len(todo) > 0; todo = todo[1:] {
		for o, ready := d.next(todo[0]); ready; o, ready = d.next(todo[0]) {
			d.learn(o)
			todo = append(todo, d.late.woken(ops.Range(o))...)
		}
	}
}

// next takes the next operation of a client, if it is ready; if it needs what isn't known, that is asked for.
func (d *Doc) next(client uint64) (api.Op, bool) {
	o, waits := d.late.first(client)
	if !waits || !d.follows(o.Id) {
		return api.Op{}, false
	}
	for _, id := range ops.Needs(o) {
		if !d.knows(id) {
			d.late.ask(id, client)
			return api.Op{}, false
		}
	}
	d.late.drop(client)
	return o, true
}

// learn makes known an operation that is ready.
func (d *Doc) learn(o api.Op) {
	d.store.Add(o)
	d.stamp = max(d.stamp, o.Stamp)
	if !d.work(o) {
		d.void.add(ops.Range(o))
	}
}

// work does what an operation says, and answers whether it can be done.
func (d *Doc) work(o api.Op) bool {
	switch o.Kind {
	case api.OpText, api.OpEmbed:
		return d.seq.Run(api.Unit{Id: o.Id, Left: o.Left, Right: o.Right}, ops.Len(o))
	case api.OpSet:
		return d.maps.Set(o)
	}
	return d.mark(o)
}

// mark lays a mark, if the units of its anchors are there.
func (d *Doc) mark(o api.Op) bool {
	for _, a := range [...]api.Anchor{o.From, o.To} {
		if _, there := marks.Gap(d.seq, a); !there {
			return false
		}
	}
	d.marks = append(d.marks, o)
	return true
}
