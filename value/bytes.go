package value

import (
	"math"

	"quire/api"
	"quire/wire"
)

// Write writes v's kind, and what that kind uses.
func Write(w *wire.Writer, v api.Value) {
	w.Byte(byte(v.Kind))
	switch v.Kind {
	case api.ValBool:
		w.Byte(byte(v.N))
	case api.ValInt:
		w.Int(v.N)
	case api.ValFloat:
		w.Fixed(math.Float64bits(oneNaN(v.F)))
	case api.ValText:
		w.Text(v.S)
	}
}

// Read reads what Write writes. As a read of wire's own it takes nothing away when it fails: its parts that were taken are laid back.
func Read(r *wire.Reader) api.Value {
	ahead := *r
	v := readParts(r)
	fault := r.Err()
	if fault == api.OK && !writable(v) {
		fault = api.ErrWireForm
	}
	if fault != api.OK {
		*r = ahead
		r.Fault = fault
		return api.Value{}
	}
	return v
}

// readParts reads a kind, and what it uses, and leaves it to its caller to ask whether that is a value.
func readParts(r *wire.Reader) api.Value {
	v := api.Value{Kind: int(r.Byte())}
	switch v.Kind {
	case api.ValBool:
		v.N = int64(r.Byte())
	case api.ValInt:
		v.N = r.Int()
	case api.ValFloat:
		v.F = math.Float64frombits(r.Fixed())
	case api.ValText:
		v.S = r.Text(api.MaxString)
	}
	return v
}

// writable answers whether v has the bits that Write would write of it.
func writable(v api.Value) bool {
	return Check(v) == api.OK && math.Float64bits(v.F) == math.Float64bits(oneNaN(v.F))
}
