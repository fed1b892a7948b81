package anchor

import (
	"quire/api"
	"quire/ids"
	"quire/wire"
)

// Write writes a's id, and whether it is behind that.
func Write(w *wire.Writer, a api.Anchor) {
	w.Uint(a.Id.Client)
	w.Uint(a.Id.Clock)
	if a.After {
		w.Byte(1)
	} else {
		w.Byte(0)
	}
}

// Read reads what Write writes. As a read of wire's own it takes nothing away when it fails: its parts that were taken are laid back.
func Read(r *wire.Reader) api.Anchor {
	ahead := *r
	var a api.Anchor
	fault := wire.Try(func() { a = readParts(r) })
	if fault != api.OK {
		*r = ahead
		r.Fault = fault
		return api.Anchor{}
	}
	return a
}

// readParts fails at the first part that nothing writes so.
func readParts(r *wire.Reader) api.Anchor {
	return api.Anchor{Id: readId(r), After: readAfter(r)}
}

func readId(r *wire.Reader) api.Id {
	id := api.Id{Client: number(r), Clock: number(r)}
	if id != (api.Id{}) && !ids.Right(id) {
		wire.Fail(api.ErrWireForm)
	}
	return id
}

func readAfter(r *wire.Reader) bool {
	b := r.Byte()
	check(r)
	if b > 1 {
		wire.Fail(api.ErrWireForm)
	}
	return b == 1
}

func number(r *wire.Reader) uint64 {
	n := r.Uint(api.MaxId)
	check(r)
	return n
}

// check fails as r did.
func check(r *wire.Reader) {
	if r.Err() != api.OK {
		wire.Fail(r.Err())
	}
}
