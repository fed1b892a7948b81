package vector

import (
	"math"

	"quire/api"
	"quire/wire"
)

// Write writes Clean's form of l, a client by how far it is from the one ahead.
func Write(w *wire.Writer, l []api.Clock) {
	clean := Clean(l)
	w.Uint(uint64(len(clean)))
	ahead := uint64(0)
	for _, c := range clean {
		w.Uint(c.Client - ahead)
		w.Uint(c.Clock)
		ahead = c.Client
	}
}

// Read reads what Write writes. As a read of wire's own it takes nothing away when it fails: its parts that were taken are laid back.
func Read(r *wire.Reader) []api.Clock {
	ahead := *r
	var l []api.Clock
	fault := wire.Try(func() { l = readClocks(r) })
	if fault != api.OK {
		*r = ahead
		r.Fault = fault
		return nil
	}
	return l
}

// readClocks fails at the first part that nothing writes so.
func readClocks(r *wire.Reader) []api.Clock {
	var l []api.Clock
	client := uint64(0)
	for range number(r, api.MaxOps) {
		client += step(r, client)
		l = append(l, api.Clock{Client: client, Clock: clock(r)})
	}
	return l
}

// step reads how far the next client is from the one ahead. The bound is asked here, not of the Reader: a client that there isn't is of wrong form, not too large.
func step(r *wire.Reader, ahead uint64) uint64 {
	n := number(r, math.MaxUint64)
	if n == 0 || n > api.MaxId-ahead {
		wire.Fail(api.ErrWireForm)
	}
	return n
}

func clock(r *wire.Reader) uint64 {
	n := number(r, api.MaxId)
	if n == 0 {
		wire.Fail(api.ErrWireForm)
	}
	return n
}

func number(r *wire.Reader, most uint64) uint64 {
	n := r.Uint(most)
	if r.Err() != api.OK {
		wire.Fail(r.Err())
	}
	return n
}
