package anchor_test

import (
	"math"
	"slices"
	"testing"

	"quire/anchor"
	"quire/api"
	"quire/ids"
	"quire/wire"
)

func written(a api.Anchor) []byte {
	w := &wire.Writer{}
	anchor.Write(w, a)
	return w.Bytes()
}

// spelt: anchors and their bytes.
func spelt() []struct {
	a api.Anchor
	b []byte
} {
	most := []byte{0xFF, 0xFF, 0xFF, 0xFF, 0xFF, 0xFF, 0xFF, 0x0F}
	return []struct {
		a api.Anchor
		b []byte
	}{
		{begin, []byte{0, 0, 0}},
		{end, []byte{0, 0, 1}},
		{ahead(id(1, 1)), []byte{1, 1, 0}},
		{behind(id(1, 1)), []byte{1, 1, 1}},
		{ahead(id(1, 127)), []byte{1, 0x7F, 0}},
		{behind(id(128, 2)), []byte{0x80, 1, 2, 1}},
		{behind(id(300, 5)), []byte{0xAC, 2, 5, 1}},
		{ahead(id(2, 300)), []byte{2, 0xAC, 2, 0}},
		{behind(id(top, top)), slices.Concat(most, most, []byte{1})},
		{ahead(id(top, 1)), slices.Concat(most, []byte{1, 0})},
		{ahead(id(1, top)), slices.Concat([]byte{1}, most, []byte{0})},
	}
}

func TestP19_2Write(t *testing.T) {
	for _, x := range spelt() {
		if got := written(x.a); !slices.Equal(got, x.b) {
			t.Errorf("%v: % X, not % X", x.a, got, x.b)
		}
		w := &wire.Writer{}
		w.Byte(0xEE)
		anchor.Write(w, x.a)
		anchor.Write(w, x.a)
		if got := w.Bytes(); !slices.Equal(got, slices.Concat([]byte{0xEE}, x.b, x.b)) {
			t.Errorf("%v behind others: % X", x.a, got)
		}
	}
	for _, a := range []api.Anchor{ahead(id(0, 1)), behind(id(1, 0)), ahead(id(top+1, 1)), behind(id(math.MaxUint64, math.MaxUint64))} { // nothing is refused
		w := &wire.Writer{}
		w.Uint(a.Id.Client)
		w.Uint(a.Id.Clock)
		if a.After {
			w.Byte(1)
		} else {
			w.Byte(0)
		}
		if got := written(a); !slices.Equal(got, w.Bytes()) {
			t.Errorf("%v: % X, not % X", a, got, w.Bytes())
		}
	}
}

// checkRead: what Read answers of b, and how many bytes are left then. b must be as it was.
func checkRead(t *testing.T, b []byte, want api.Anchor, e api.Errno, left int) {
	t.Helper()
	whole := append(slices.Clone(b), 0, 0, 1)
	was := slices.Clone(whole)
	r := wire.NewReader(whole[:len(b)])
	if got := anchor.Read(r); got != want || r.Err() != e || r.Left() != left {
		t.Errorf("% X: %v, %v with %d left, not %v, %v with %d", b, got, r.Err(), r.Left(), want, e, left)
	}
	if !slices.Equal(whole, was) {
		t.Fatalf("what was handed in has changed: % X", whole)
	}
	if e == api.OK {
		return
	}
	for range 2 { // and behind that zeros
		if got := anchor.Read(r); got != (api.Anchor{}) || r.Byte() != 0 || r.Uint(9) != 0 || r.Err() != e || r.Left() != left {
			t.Errorf("% X: behind the failure: %v, %v with %d left", b, got, r.Err(), r.Left())
		}
	}
}

func TestP19_2Read(t *testing.T) {
	for _, x := range spelt() {
		checkRead(t, x.b, x.a, api.OK, 0)
		checkRead(t, append(slices.Clone(x.b), 0, 9), x.a, api.OK, 2)
		for n := range x.b {
			checkRead(t, x.b[:n], api.Anchor{}, api.ErrWireShort, n)
		}
		for b := 2; b < 256; b++ {
			wrong := append(slices.Clone(x.b), 0)
			wrong[len(x.b)-1] = byte(b)
			checkRead(t, wrong, api.Anchor{}, api.ErrWireForm, len(wrong))
		}
	}
}

func TestP19_2ReadTwice(t *testing.T) {
	r := wire.NewReader([]byte{1, 2, 1, 0, 0, 0, 9})
	if a, b := anchor.Read(r), anchor.Read(r); a != behind(id(1, 2)) || b != begin || r.Err() != api.OK || r.Left() != 1 || r.Byte() != 9 {
		t.Errorf("%v, %v, %v", a, b, r.Err())
	}
	r = wire.NewReader([]byte{1, 2, 1, 0, 1, 0, 9})
	if a, b := anchor.Read(r), anchor.Read(r); a != behind(id(1, 2)) || b != (api.Anchor{}) || r.Err() != api.ErrWireForm || r.Left() != 4 {
		t.Errorf("%v, %v, %v with %d left", a, b, r.Err(), r.Left())
	}
}

func TestP19_2ReadWrong(t *testing.T) {
	above := []byte{0x80, 0x80, 0x80, 0x80, 0x80, 0x80, 0x80, 0x10} // MaxId and 1
	most := []byte{0xFF, 0xFF, 0xFF, 0xFF, 0xFF, 0xFF, 0xFF, 0xFF, 0xFF, 1}
	for _, x := range []struct {
		what string
		b    []byte
		want api.Errno
	}{
		{"nothing", nil, api.ErrWireShort},
		{"a client without a clock", []byte{0, 1, 0}, api.ErrWireForm},
		{"a clock without a client", []byte{1, 0, 0}, api.ErrWireForm},
		{"a client without a clock, After", []byte{0, 1, 1}, api.ErrWireForm},
		{"one number alone is 0, and the end is missing", []byte{1, 0}, api.ErrWireForm},
		{"one number alone is 0, and the end is missing", []byte{0, 1}, api.ErrWireForm},
		{"one number alone is 0, and the byte is above 1", []byte{0, 1, 2}, api.ErrWireForm},
		{"the greatest id without a clock", []byte{0xFF, 0xFF, 0xFF, 0xFF, 0xFF, 0xFF, 0xFF, 0x0F, 0, 0}, api.ErrWireForm},
		{"a client above MaxId", slices.Concat(above, []byte{1, 0}), api.ErrWireBig},
		{"a clock above MaxId", slices.Concat([]byte{1}, above, []byte{0}), api.ErrWireBig},
		{"a clock above MaxId, no client", slices.Concat([]byte{0}, above, []byte{0}), api.ErrWireBig},
		{"a clock above MaxId, the byte above 1", slices.Concat([]byte{1}, above, []byte{2}), api.ErrWireBig},
		{"a client above MaxId, the rest is missing", above, api.ErrWireBig},
		{"a clock above MaxId, the byte is missing", slices.Concat([]byte{1}, above), api.ErrWireBig},
		{"the greatest numbers", slices.Concat(most, most, []byte{0}), api.ErrWireBig},
		{"a client in another spelling", []byte{0x81, 0, 1, 0}, api.ErrWireForm},
		{"a clock in another spelling", []byte{1, 0x81, 0, 0}, api.ErrWireForm},
		{"noughts in another spelling", []byte{0x80, 0, 0x80, 0, 0}, api.ErrWireForm},
		{"a client of eleven bytes", slices.Concat(most[:9], []byte{0x81, 1, 1, 0}), api.ErrWireForm},
		{"a client that doesn't end", []byte{0x81}, api.ErrWireShort},
		{"a clock that doesn't end", []byte{1, 0x81}, api.ErrWireShort},
		{"the byte above 1", []byte{1, 1, 2}, api.ErrWireForm},
		{"the byte above 1 of zeros", []byte{0, 0, 255}, api.ErrWireForm},
		{"the byte as a number", []byte{1, 1, 0x81, 0}, api.ErrWireForm},
	} {
		checkRead(t, x.b, api.Anchor{}, x.want, len(x.b))
	}
}

// TestP19_2ReadBehindAFailure: a reader that failed ahead tells that error, and gives nothing.
func TestP19_2ReadBehindAFailure(t *testing.T) {
	r := wire.NewReader([]byte{1, 1, 1})
	if r.Uint(0) != 0 || r.Err() != api.ErrWireBig {
		t.Fatalf("%v", r.Err())
	}
	if a := anchor.Read(r); a != (api.Anchor{}) || r.Err() != api.ErrWireBig || r.Left() != 3 {
		t.Errorf("%v, %v with %d left", a, r.Err(), r.Left())
	}
}

// model: what Read is to answer of b, and how many bytes it takes, as the chapter's words have it.
func model(b []byte) (api.Anchor, api.Errno, int) {
	r := wire.NewReader(b)
	client := r.Uint(top)
	clock := r.Uint(top)
	if x := id(client, clock); r.Err() == api.OK && x != none && !ids.Right(x) {
		return api.Anchor{}, api.ErrWireForm, 0
	}
	after := r.Byte()
	if r.Err() != api.OK {
		return api.Anchor{}, r.Err(), 0
	}
	if after > 1 {
		return api.Anchor{}, api.ErrWireForm, 0
	}
	return api.Anchor{Id: id(client, clock), After: after == 1}, api.OK, len(b) - r.Left()
}

// checkBytes: what is read is spelt as it was.
func checkBytes(t *testing.T, b []byte) {
	t.Helper()
	a, e, n := model(b)
	checkRead(t, b, a, e, len(b)-n)
	if e == api.OK && !slices.Equal(written(a), b[:n]) {
		t.Errorf("% X: read as %v, which is % X", b[:n], a, written(a))
	}
}

// TestP19_2ReadEach: each few bytes of those that are edges.
func TestP19_2ReadEach(t *testing.T) {
	var each func(b []byte, n int)
	each = func(b []byte, n int) {
		checkBytes(t, b)
		if n == 0 {
			return
		}
		for _, x := range []byte{0, 1, 2, 0x7F, 0x80, 0xFF} {
			each(append(b[:len(b):len(b)], x), n-1)
		}
	}
	each(nil, 5)
}

func FuzzP19_2Read(f *testing.F) {
	for _, x := range spelt() {
		f.Add(x.b)
	}
	f.Fuzz(checkBytes)
}
