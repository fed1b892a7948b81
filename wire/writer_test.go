package wire_test

import (
	"bytes"
	"math"
	"strings"
	"testing"

	"quire/wire"
)

// written: the bytes of what f writes to a zero Writer.
func written(f func(w *wire.Writer)) []byte {
	var w wire.Writer
	f(&w)
	return w.Bytes()
}

func checkBytes(t *testing.T, what string, got, want []byte) {
	t.Helper()
	if !bytes.Equal(got, want) {
		t.Errorf("%s: % X, not % X", what, got, want)
	}
}

// nines: a number's first nine bytes, all bits 1, and one more byte.
func nines(tenth byte) []byte {
	return append(bytes.Repeat([]byte{0xFF}, 9), tenth)
}

// uints: numbers at the edges of each length, with their bytes.
func uints() map[uint64][]byte {
	return map[uint64][]byte{
		0:                  {0},
		1:                  {1},
		0x7F:               {0x7F},
		0x80:               {0x80, 0x01},
		300:                {0xAC, 0x02},
		1<<14 - 1:          {0xFF, 0x7F},
		1 << 14:            {0x80, 0x80, 0x01},
		1<<53 - 1:          {0xFF, 0xFF, 0xFF, 0xFF, 0xFF, 0xFF, 0xFF, 0x0F},
		1<<63 - 1:          {0xFF, 0xFF, 0xFF, 0xFF, 0xFF, 0xFF, 0xFF, 0xFF, 0x7F},
		1 << 63:            {0x80, 0x80, 0x80, 0x80, 0x80, 0x80, 0x80, 0x80, 0x80, 0x01},
		math.MaxUint64:     nines(1),
		math.MaxUint64 - 1: append([]byte{0xFE}, nines(1)[1:]...),
	}
}

// ints: numbers with a sign, at their edges, and the Uint that each is written as.
func ints() map[int64]uint64 {
	return map[int64]uint64{
		0: 0, -1: 1, 1: 2, -2: 3, 2: 4, -300: 599, 300: 600,
		-64: 127, 64: 128, -1 << 31: 1<<32 - 1,
		math.MaxInt64:     math.MaxUint64 - 1,
		math.MinInt64 + 1: math.MaxUint64 - 2,
		math.MinInt64:     math.MaxUint64,
	}
}

func TestP1_1Uint(t *testing.T) {
	for n, want := range uints() {
		checkBytes(t, "Uint", written(func(w *wire.Writer) { w.Uint(n) }), want)
	}
}

func TestP1_1Int(t *testing.T) {
	for n, u := range ints() {
		want := written(func(w *wire.Writer) { w.Uint(u) })
		checkBytes(t, "Int", written(func(w *wire.Writer) { w.Int(n) }), want)
	}
	checkBytes(t, "Int(-1)", written(func(w *wire.Writer) { w.Int(-1) }), []byte{1})
	checkBytes(t, "Int(-2^63)", written(func(w *wire.Writer) { w.Int(math.MinInt64) }), nines(1))
}

func TestP1_1Byte(t *testing.T) {
	for b := range 256 {
		checkBytes(t, "Byte", written(func(w *wire.Writer) { w.Byte(byte(b)) }), []byte{byte(b)})
	}
}

func TestP1_1Fixed(t *testing.T) {
	for n, want := range map[uint64][]byte{
		0:                  {0, 0, 0, 0, 0, 0, 0, 0},
		1:                  {0, 0, 0, 0, 0, 0, 0, 1},
		0x0102030405060708: {1, 2, 3, 4, 5, 6, 7, 8},
		1 << 63:            {0x80, 0, 0, 0, 0, 0, 0, 0},
		math.MaxUint64:     bytes.Repeat([]byte{0xFF}, 8),
	} {
		checkBytes(t, "Fixed", written(func(w *wire.Writer) { w.Fixed(n) }), want)
	}
}

func TestP1_1Text(t *testing.T) {
	long := strings.Repeat("x", 128)
	for s, want := range map[string][]byte{
		"":         {0},
		"ab":       {2, 'a', 'b'},
		"é":        {2, 0xC3, 0xA9},
		"\xFF\x00": {2, 0xFF, 0x00},
		long[1:]:   append([]byte{0x7F}, long[1:]...),
		long:       append([]byte{0x80, 0x01}, long...),
	} {
		checkBytes(t, "Text", written(func(w *wire.Writer) { w.Text(s) }), want)
	}
}

func TestP1_1BytesAreAllInOrder(t *testing.T) {
	var w wire.Writer
	checkBytes(t, "nothing", w.Bytes(), nil)
	w.Uint(300)
	w.Int(-1)
	w.Byte(7)
	w.Fixed(9)
	w.Text("ab")
	want := []byte{0xAC, 0x02, 0x01, 7, 0, 0, 0, 0, 0, 0, 0, 9, 2, 'a', 'b'}
	checkBytes(t, "all", w.Bytes(), want)
	checkBytes(t, "all, asked again", w.Bytes(), want)
	w.Byte(1)
	checkBytes(t, "one more", w.Bytes(), append(want, 1))
}

// What is answered is new memory: neither a later write nor the caller reaches the other's bytes.
func TestP1_1BytesAreNewMemory(t *testing.T) {
	for n := range 70 {
		var w wire.Writer
		w.Text(strings.Repeat("a", n))
		first := w.Bytes()
		was := bytes.Clone(first)
		clear(first[:cap(first)])
		checkBytes(t, "behind a caller's change", w.Bytes(), was)
		second := w.Bytes()
		_ = append(second, 'z')
		w.Byte('b')
		checkBytes(t, "answered ahead of a write", second, was)
		checkBytes(t, "behind a caller's append", w.Bytes(), append(was, 'b'))
	}
}

func TestP1_1WritersAreApart(t *testing.T) {
	var a, b wire.Writer
	a.Byte(1)
	b.Byte(2)
	a.Byte(3)
	checkBytes(t, "a", a.Bytes(), []byte{1, 3})
	checkBytes(t, "b", b.Bytes(), []byte{2})
}
