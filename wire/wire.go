// Package wire: bytes that are written, and read with bounds: what isn't there, or isn't so, panics within and is an error without: see doc/01-wire.md.
package wire

import (
	"quire/api"
)

// failure is a type of the package's own, so that a recover tells what Fail threw from every other panic.
type failure struct{ errno api.Errno }

// Try runs f, and answers what f failed with; OK, if f came to its end.
func Try(f func()) (e api.Errno) {
	defer func() {
		if thrown := recover(); thrown != nil {
			e = errnoOf(thrown)
		}
	}()
	f()
	return api.OK
}

// errnoOf lets what Fail didn't throw go on: a fault of the program isn't to pass for one of the bytes it reads.
func errnoOf(thrown any) api.Errno {
	f, ok := thrown.(failure)
	if !ok {
		panic(thrown)
	}
	return f.errno
}

// Fail ends the innermost Try around it, which answers e. OK would pass for success there: it counts as ErrWireForm.
func Fail(e api.Errno) {
	if e == api.OK {
		e = api.ErrWireForm
	}
	panic(failure{e})
}
