package wire

import (
	"slices"
)

// more is added to each byte of a number that another one follows.
const more = 0x80

// Writer gathers what is written. A zero Writer is ready.
type Writer struct{ written []byte }

// Uint writes n, seven bits a byte, the lowest first.
func (w *Writer) Uint(n uint64) {
	for n >= more {
		w.Byte(byte(n) | more)
		n >>= 7
	}
	w.Byte(byte(n))
}

// Int writes n with its sign in the lowest bit, so that numbers near 0 are short on both sides of it.
func (w *Writer) Int(n int64) {
	// n>>63 is all ones if n is below 0: turning all bits gives the opposite less 1, at -2^63 too.
	w.Uint(uint64(n)<<1 ^ uint64(n>>63))
}

// Byte writes b.
func (w *Writer) Byte(b byte) {
	w.written = append(w.written, b)
}

// Fixed writes n as 8 bytes, the highest first.
func (w *Writer) Fixed(n uint64) {
	for shift := 56; shift >= 0; shift -= 8 {
		w.Byte(byte(n >> shift))
	}
}

// Text writes the length of s, and its bytes.
func (w *Writer) Text(s string) {
	w.Uint(uint64(len(s)))
	w.written = append(w.written, s...)
}

// Bytes answers a copy of all that was written, for the Writer may be written to again.
func (w *Writer) Bytes() []byte {
	return slices.Clone(w.written)
}
