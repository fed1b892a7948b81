package value_test

import (
	"math"
	"slices"
	"strings"
	"testing"

	"quire/api"
	"quire/value"
	"quire/wire"
)

// bytesOf: what Write writes of v.
func bytesOf(v api.Value) string {
	var w wire.Writer
	value.Write(&w, v)
	return string(w.Bytes())
}

func TestP2_3Write(t *testing.T) {
	for _, x := range []struct {
		v    api.Value
		want string
	}{
		{api.Value{}, "\x00"}, {api.Value{Kind: api.ValMap}, "\x05"},
		{boolean(0), "\x01\x00"}, {boolean(1), "\x01\x01"},
		{integer(0), "\x02\x00"}, {integer(-1), "\x02\x01"}, {integer(150), "\x02\xAC\x02"},
		{integer(math.MinInt64), "\x02" + strings.Repeat("\xFF", 9) + "\x01"}, {integer(math.MaxInt64), "\x02\xFE" + strings.Repeat("\xFF", 8) + "\x01"},
		{float(1), "\x03\x3F\xF0\x00\x00\x00\x00\x00\x00"}, {float(0), "\x03" + strings.Repeat("\x00", 8)}, {float(minusZero), "\x03\x80" + strings.Repeat("\x00", 7)},
		{float(math.Inf(-1)), "\x03\xFF\xF0\x00\x00\x00\x00\x00\x00"},
		{text(""), "\x04\x00"}, {text("é\""), "\x04\x03\xC3\xA9\""}, {text(strings.Repeat("a", api.MaxString)), "\x04\x80\x20" + strings.Repeat("a", api.MaxString)},
	} {
		if got := bytesOf(x.v); got != x.want {
			t.Errorf("%v: %x, not %x", x.v, got, x.want)
		}
	}
	for _, bits := range nans() {
		if got := bytesOf(floatOf(bits)); got != "\x03\x7F\xF8\x00\x00\x00\x00\x00\x00" {
			t.Errorf("NaN %X: %x", bits, got)
		}
	}
}

func TestP2_3WriteAddsToWhatIsThere(t *testing.T) {
	var w wire.Writer
	w.Byte(9)
	value.Write(&w, integer(1))
	value.Write(&w, text("a"))
	w.Byte(8)
	if got := string(w.Bytes()); got != "\x09\x02\x02\x04\x01a\x08" {
		t.Errorf("%x", got)
	}
}

// Of a value that Check refuses no more is promised than that the calls end.
func TestP2_3RefusedEnds(t *testing.T) {
	for _, v := range refused() {
		value.Read(wire.NewReader([]byte(bytesOf(v))))
		value.Text(v)
		value.Add(v, v)
	}
}

func TestP2_3ReadBack(t *testing.T) {
	for _, v := range all() {
		r := wire.NewReader([]byte("\x07" + bytesOf(v) + "\x08"))
		r.Byte()
		if got := value.Read(r); !alike(got, v) || r.Err() != api.OK || r.Left() != 1 {
			t.Errorf("%v: %v, %v, %d left", v, got, r.Err(), r.Left())
		}
	}
	for _, bits := range nans() {
		r := wire.NewReader([]byte(bytesOf(floatOf(bits))))
		if got := value.Read(r); !alike(got, floatOf(theNaN)) || r.Err() != api.OK {
			t.Errorf("NaN %X: %v, %v", bits, got, r.Err())
		}
	}
}

func TestP2_3ReadSeveral(t *testing.T) {
	var w wire.Writer
	for _, v := range ordered() {
		value.Write(&w, v)
	}
	r := wire.NewReader(w.Bytes())
	for _, v := range ordered() {
		if got := value.Read(r); !alike(got, v) {
			t.Errorf("%v: %v", v, got)
		}
	}
	if r.Err() != api.OK || r.Left() != 0 {
		t.Errorf("%v, %d left", r.Err(), r.Left())
	}
}

// checkRefusal: Read of b fails with e: the value is zero, nothing is taken away, and every read behind it fails, too.
func checkRefusal(t *testing.T, b string, e api.Errno) {
	t.Helper()
	r := wire.NewReader([]byte("\x07" + b))
	r.Byte()
	for range 2 {
		if got := value.Read(r); !alike(got, api.Value{}) || r.Err() != e || r.Left() != len(b) {
			t.Errorf("%x: %v, %v, %d left; not %v", b, got, r.Err(), r.Left(), e)
		}
		if r.Byte() != 0 || r.Fixed() != 0 || r.Text(9) != "" || r.Int() != 0 || r.Uint(math.MaxUint64) != 0 || r.Left() != len(b) {
			t.Errorf("%x: something is read behind the failure", b)
		}
	}
}

func TestP2_3ReadForm(t *testing.T) {
	for kind := api.ValMap + 1; kind < 256; kind++ {
		checkRefusal(t, string([]byte{byte(kind)}), api.ErrWireForm)
		checkRefusal(t, string([]byte{byte(kind), 0, 0}), api.ErrWireForm)
	}
	for n := 2; n < 256; n++ {
		checkRefusal(t, string([]byte{api.ValBool, byte(n)}), api.ErrWireForm)
	}
	for _, bits := range nans() {
		if bits != theNaN {
			var w wire.Writer
			w.Byte(api.ValFloat)
			w.Fixed(bits)
			checkRefusal(t, string(w.Bytes()), api.ErrWireForm)
			checkRefusal(t, string(w.Bytes())+"more", api.ErrWireForm)
		}
	}
	for _, s := range slices.Concat(wrongTexts(), []string{strings.Repeat("a", api.MaxString-1) + "\x80"}) {
		checkRefusal(t, bytesOf(text(s)), api.ErrWireForm)
		checkRefusal(t, bytesOf(text(s))+"\x80", api.ErrWireForm)
	}
	checkRefusal(t, "\x02\x80\x00", api.ErrWireForm)
	checkRefusal(t, "\x02"+strings.Repeat("\xFF", 9)+"\x02", api.ErrWireForm)
	checkRefusal(t, "\x04\x81\x00a", api.ErrWireForm)
	checkRefusal(t, "\x04"+strings.Repeat("\xFF", 9)+"\x02", api.ErrWireForm)
}

func TestP2_3ReadShort(t *testing.T) {
	checkRefusal(t, "", api.ErrWireShort)
	for _, v := range append(ordered(), text(strings.Repeat("a", api.MaxString))) {
		b := bytesOf(v)
		for n := range len(b) {
			checkRefusal(t, b[:n], api.ErrWireShort)
		}
	}
	checkRefusal(t, "\x04\x02\xFF", api.ErrWireShort) // there is no text yet to be of wrong form
}

func TestP2_3ReadBig(t *testing.T) {
	long := bytesOf(text(strings.Repeat("a", api.MaxString+1)))
	checkRefusal(t, long, api.ErrWireBig)
	checkRefusal(t, long[:3], api.ErrWireBig) // asked ahead of the bytes
	checkRefusal(t, bytesOf(text(strings.Repeat("\xFF", api.MaxString+1))), api.ErrWireBig)
	checkRefusal(t, "\x04"+strings.Repeat("\xFF", 9)+"\x01", api.ErrWireBig)
}

// A Reader that failed ahead keeps its error.
func TestP2_3ReadBehindAFailure(t *testing.T) {
	r := wire.NewReader([]byte{api.ValInt, 2})
	r.Fixed()
	if got := value.Read(r); !alike(got, api.Value{}) || r.Err() != api.ErrWireShort || r.Left() != 2 {
		t.Errorf("%v, %v, %d left", got, r.Err(), r.Left())
	}
	r = wire.NewReader([]byte{9, 9, 9})
	r.Uint(8)
	if got := value.Read(r); !alike(got, api.Value{}) || r.Err() != api.ErrWireBig || r.Left() != 3 {
		t.Errorf("%v, %v, %d left", got, r.Err(), r.Left())
	}
}

// What is read at all has one spelling: it is written with the bytes that were read.
func FuzzP2_3Read(f *testing.F) {
	for _, v := range ordered() {
		f.Add([]byte(bytesOf(v)))
	}
	for _, b := range []string{"\x06", "\x01\x02", "\x03\xFF\xF8\x00\x00\x00\x00\x00\x00", "\x04\x01\xFF", "\x02\x80\x00"} {
		f.Add([]byte(b))
	}
	f.Fuzz(func(t *testing.T, b []byte) {
		r := wire.NewReader(b)
		v := value.Read(r)
		if r.Err() != api.OK {
			if !alike(v, api.Value{}) || r.Left() != len(b) {
				t.Errorf("%x: %v, %v, %d left", b, v, r.Err(), r.Left())
			}
			return
		}
		if value.Check(v) != api.OK || bytesOf(v) != string(b[:len(b)-r.Left()]) {
			t.Errorf("%x: %v, written %x", b, v, bytesOf(v))
		}
	})
}
