package wire

import (
	"math"
	"slices"

	"quire/api"
)

// Reader reads bytes from their beginning on, till a read fails.
type Reader struct {
	left []byte
	// Fault is the error of the first read that failed. A layer above may find that nothing writes what its reads gave: it tells so here, for no call of the face does.
	Fault api.Errno
}

// NewReader makes a Reader of a copy of b, for b is the caller's to change.
func NewReader(b []byte) *Reader {
	return &Reader{left: slices.Clone(b)}
}

// Uint reads a number of at most most.
func (r *Reader) Uint(most uint64) (n uint64) {
	r.read(func() { n = r.number(most) })
	return n
}

// Int reads a number of any size, with its sign in the lowest bit.
func (r *Reader) Int() (n int64) {
	r.read(func() {
		u := r.number(math.MaxUint64)
		n = int64(u>>1) ^ -int64(u&1)
	})
	return n
}

// Byte reads a byte.
func (r *Reader) Byte() (b byte) {
	r.read(func() { b = r.take(1)[0] })
	return b
}

// Fixed reads 8 bytes, the highest first.
func (r *Reader) Fixed() (n uint64) {
	r.read(func() {
		for _, b := range r.take(8) {
			n = n<<8 | uint64(b)
		}
	})
	return n
}

// Text reads a text of at most most bytes; most below 0 counts as 0.
func (r *Reader) Text(most int) (s string) {
	r.read(func() { s = string(r.take(r.number(uint64(max(most, 0))))) })
	return s
}

// Left answers how many bytes are left.
func (r *Reader) Left() int {
	return len(r.left)
}

// Err answers the error of the first read that failed; OK, if none did.
func (r *Reader) Err() api.Errno {
	return r.Fault
}

// read runs one read, none behind a failure. Parts of a read may have been taken when it fails: they are laid back.
func (r *Reader) read(f func()) {
	if r.Fault != api.OK {
		return
	}
	ahead := r.left
	if e := Try(f); e != api.OK {
		r.left, r.Fault = ahead, e
	}
}

// take takes the next n bytes away, or fails.
func (r *Reader) take(n uint64) []byte {
	if n > uint64(len(r.left)) {
		Fail(api.ErrWireShort)
	}
	taken := r.left[:n]
	r.left = r.left[n:]
	return taken
}

// number takes a number of at most most away, or fails. It ends at the tenth byte, which may be 1 at most: no number has more than 64 bits.
func (r *Reader) number(most uint64) uint64 {
	var n uint64
	for at := 0; ; at++ {
		b := r.take(1)[0]
		if at == 9 && b > 1 || at > 0 && b == 0 {
			Fail(api.ErrWireForm)
		}
		n |= uint64(b&^more) << (7 * at)
		if b < more {
			break
		}
	}
	if n > most {
		Fail(api.ErrWireBig)
	}
	return n
}
