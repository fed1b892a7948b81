package wire_test

import (
	"bytes"
	"math"
	"strings"
	"testing"

	"quire/api"
	"quire/wire"
)

// checkReader: r's error, and how many bytes are left.
func checkReader(t *testing.T, what string, r *wire.Reader, e api.Errno, left int) {
	t.Helper()
	if r.Err() != e || r.Left() != left {
		t.Errorf("%s: %v with %d left, not %v with %d", what, r.Err(), r.Left(), e, left)
	}
}

// checkEnded: r failed with e: every read answers zero, takes nothing, and leaves the error as it is.
func checkEnded(t *testing.T, what string, r *wire.Reader, e api.Errno, left int) {
	t.Helper()
	for range 2 {
		checkReader(t, what, r, e, left)
		if n := r.Uint(math.MaxUint64); n != 0 {
			t.Errorf("%s: Uint behind a failure: %d", what, n)
		}
		if n := r.Uint(0); n != 0 {
			t.Errorf("%s: Uint(0) behind a failure: %d", what, n)
		}
		if n := r.Int(); n != 0 {
			t.Errorf("%s: Int behind a failure: %d", what, n)
		}
		if b := r.Byte(); b != 0 {
			t.Errorf("%s: Byte behind a failure: %d", what, b)
		}
		if n := r.Fixed(); n != 0 {
			t.Errorf("%s: Fixed behind a failure: %d", what, n)
		}
		if s := r.Text(math.MaxInt); s != "" {
			t.Errorf("%s: Text behind a failure: %q", what, s)
		}
	}
	checkReader(t, what, r, e, left)
}

func TestP1_2Uint(t *testing.T) {
	for want, b := range uints() {
		for _, most := range []uint64{want, math.MaxUint64} {
			r := wire.NewReader(append(b, 0xEE))
			if n := r.Uint(most); n != want {
				t.Errorf("% X: %d, not %d", b, n, want)
			}
			checkReader(t, "a byte is left", r, api.OK, 1)
		}
		if want > 0 {
			for _, most := range []uint64{want - 1, 0} {
				r := wire.NewReader(append(b, 0xEE))
				if n := r.Uint(most); n != 0 {
					t.Errorf("% X, at most %d: %d", b, most, n)
				}
				checkEnded(t, "above most", r, api.ErrWireBig, len(b)+1)
			}
		}
	}
}

func TestP1_2UintBroken(t *testing.T) {
	rep := func(n int, tail ...byte) []byte { return append(bytes.Repeat([]byte{0x80}, n), tail...) }
	for _, x := range []struct {
		what string
		b    []byte
		want api.Errno
	}{
		{"no bytes", nil, api.ErrWireShort},
		{"no bytes, not nil", []byte{}, api.ErrWireShort},
		{"one byte, more to come", rep(1), api.ErrWireShort},
		{"nine bytes, more to come", rep(9), api.ErrWireShort},
		{"nine bytes of ones, more to come", nines(0)[:9], api.ErrWireShort},
		{"second byte 0", rep(1, 0), api.ErrWireForm},
		{"second byte 0, bits ahead of it", []byte{0xFF, 0}, api.ErrWireForm},
		{"third byte 0", []byte{0x81, 0x81, 0}, api.ErrWireForm},
		{"ninth byte 0", rep(8, 0), api.ErrWireForm},
		{"tenth byte 0", rep(9, 0), api.ErrWireForm},
		{"tenth byte 0 behind ones", nines(0), api.ErrWireForm},
		{"tenth byte 2", rep(9, 2), api.ErrWireForm},
		{"tenth byte 2 behind ones", nines(2), api.ErrWireForm},
		{"tenth byte 127", rep(9, 0x7F), api.ErrWireForm},
		{"tenth byte 128", rep(9, 0x80), api.ErrWireForm},
		{"tenth byte 128, others behind it", rep(9, 0x80, 1), api.ErrWireForm},
		{"tenth byte 129", rep(9, 0x81), api.ErrWireForm},
		{"tenth byte 255", nines(0xFF), api.ErrWireForm},
	} {
		for _, most := range []uint64{math.MaxUint64, 1, 0} { // the bound is asked last
			r := wire.NewReader(x.b)
			if n := r.Uint(most); n != 0 {
				t.Errorf("%s: Uint: %d", x.what, n)
			}
			checkEnded(t, x.what+": Uint", r, x.want, len(x.b))
		}
		r := wire.NewReader(x.b)
		if n := r.Int(); n != 0 {
			t.Errorf("%s: Int: %d", x.what, n)
		}
		checkEnded(t, x.what+": Int", r, x.want, len(x.b))
		for _, most := range []int{math.MaxInt, 0, -1} {
			r = wire.NewReader(x.b)
			if s := r.Text(most); s != "" {
				t.Errorf("%s: Text: %q", x.what, s)
			}
			checkEnded(t, x.what+": Text", r, x.want, len(x.b))
		}
	}
}

func TestP1_2Int(t *testing.T) {
	for want, u := range ints() {
		r := wire.NewReader(append(uintBytes(u), 0xEE))
		if n := r.Int(); n != want {
			t.Errorf("%d: %d, not %d", u, n, want)
		}
		checkReader(t, "a byte is left", r, api.OK, 1)
	}
}

func uintBytes(u uint64) []byte {
	return written(func(w *wire.Writer) { w.Uint(u) })
}

func TestP1_2Byte(t *testing.T) {
	for b := range 256 {
		r := wire.NewReader([]byte{byte(b)})
		if got := r.Byte(); got != byte(b) {
			t.Errorf("Byte %d: %d", b, got)
		}
		checkReader(t, "Byte", r, api.OK, 0)
		if got := r.Byte(); got != 0 {
			t.Errorf("Byte of nothing: %d", got)
		}
		checkEnded(t, "Byte of nothing", r, api.ErrWireShort, 0)
	}
}

func TestP1_2Fixed(t *testing.T) {
	all := []byte{0xF1, 2, 3, 4, 5, 6, 7, 8, 9}
	r := wire.NewReader(all)
	if n := r.Fixed(); n != 0xF102030405060708 {
		t.Errorf("Fixed: %X", n)
	}
	checkReader(t, "Fixed", r, api.OK, 1)
	for n := range 8 {
		r := wire.NewReader(all[:n])
		if got := r.Fixed(); got != 0 {
			t.Errorf("Fixed of %d bytes: %X", n, got)
		}
		checkEnded(t, "Fixed", r, api.ErrWireShort, n)
	}
}

func TestP1_2Text(t *testing.T) {
	long := strings.Repeat("y", 200)
	for _, want := range []string{"", "a", "ab", "é", "\xFF\x00", long} {
		b := written(func(w *wire.Writer) { w.Text(want) })
		for _, most := range []int{len(want), len(want) + 1, math.MaxInt} {
			r := wire.NewReader(append(b, 0xEE))
			if s := r.Text(most); s != want {
				t.Errorf("Text(%d): %q, not %q", most, s, want)
			}
			checkReader(t, "Text", r, api.OK, 1)
		}
		for _, most := range []int{len(want) - 1, 0, -1, math.MinInt} {
			if len(want) == 0 {
				continue
			}
			r := wire.NewReader(b)
			if s := r.Text(most); s != "" {
				t.Errorf("Text(%d): %q", most, s)
			}
			checkEnded(t, "Text above most", r, api.ErrWireBig, len(b))
		}
		for n := range len(b) {
			r := wire.NewReader(b[:n])
			if s := r.Text(math.MaxInt); s != "" {
				t.Errorf("%d of %d bytes: %q", n, len(b), s)
			}
			checkEnded(t, "Text cut short", r, api.ErrWireShort, n)
		}
	}
}

func TestP1_2TextMostBelowZero(t *testing.T) {
	for _, most := range []int{0, -1, -5, math.MinInt} {
		r := wire.NewReader([]byte{0, 1, 'a'})
		if s := r.Text(most); s != "" {
			t.Errorf("Text(%d): %q", most, s)
		}
		checkReader(t, "empty text", r, api.OK, 2)
		if s := r.Text(most); s != "" {
			t.Errorf("Text(%d): %q", most, s)
		}
		checkEnded(t, "one byte", r, api.ErrWireBig, 2)
	}
}

func TestP1_2TextErrorsInOrder(t *testing.T) {
	r := wire.NewReader([]byte{3, 'a', 'b'})
	r.Text(2)
	checkEnded(t, "too large, and short", r, api.ErrWireBig, 3)
	for length, want := range map[uint64]api.Errno{
		math.MaxUint64: api.ErrWireBig,
		1 << 63:        api.ErrWireBig,
		math.MaxInt64:  api.ErrWireShort,
		2:              api.ErrWireShort,
	} {
		b := append(uintBytes(length), 'a')
		r = wire.NewReader(b)
		r.Text(math.MaxInt64)
		checkEnded(t, "a length beyond all bytes", r, want, len(b))
	}
}

func TestP1_2FirstErrorStays(t *testing.T) {
	r := wire.NewReader([]byte{5, 0x80, 0})
	if n := r.Uint(5); n != 5 {
		t.Errorf("Uint: %d", n)
	}
	checkReader(t, "ahead of the failure", r, api.OK, 2)
	r.Uint(math.MaxUint64)
	checkEnded(t, "ErrWireForm first, then short reads", r, api.ErrWireForm, 2)
	r = wire.NewReader([]byte{0x80, 0})
	r.Fixed()
	checkEnded(t, "ErrWireShort first, then a broken number", r, api.ErrWireShort, 2)
	r = wire.NewReader([]byte{9, 0x80})
	r.Uint(8)
	checkEnded(t, "ErrWireBig first", r, api.ErrWireBig, 2)
}

func TestP1_2FaultFromAbove(t *testing.T) {
	r := wire.NewReader([]byte{5, 6, 7})
	r.Byte()
	r.Fault = api.ErrWireForm
	checkEnded(t, "a layer above found a fault", r, api.ErrWireForm, 2)
}

func TestP1_2ReadsInTurn(t *testing.T) {
	r := wire.NewReader([]byte{0xAC, 0x02, 1, 7, 0, 0, 0, 0, 0, 0, 0, 9, 2, 'a', 'b', 4})
	checkReader(t, "at first", r, api.OK, 16)
	if n := r.Uint(300); n != 300 || r.Left() != 14 {
		t.Errorf("Uint: %d, %d left", n, r.Left())
	}
	if n := r.Int(); n != -1 || r.Left() != 13 {
		t.Errorf("Int: %d, %d left", n, r.Left())
	}
	if b := r.Byte(); b != 7 || r.Left() != 12 {
		t.Errorf("Byte: %d, %d left", b, r.Left())
	}
	if n := r.Fixed(); n != 9 || r.Left() != 4 {
		t.Errorf("Fixed: %d, %d left", n, r.Left())
	}
	if s := r.Text(2); s != "ab" || r.Left() != 1 {
		t.Errorf("Text: %q, %d left", s, r.Left())
	}
	checkReader(t, "at last", r, api.OK, 1)
}

// What is handed in is neither changed nor kept.
func TestP1_2ReaderHasItsOwnBytes(t *testing.T) {
	room := []byte{2, 'a', 'b', 2, 'c', 'd', 'X', 'Y'}
	was := bytes.Clone(room)
	r := wire.NewReader(room[:6])
	s := r.Text(2)
	checkBytes(t, "handed in, spare room too", room, was)
	clear(room)
	if s != "ab" || r.Text(2) != "cd" {
		t.Errorf("a caller's change reached what was read")
	}
	checkReader(t, "all read, the spare room isn't", r, api.OK, 0)
}
