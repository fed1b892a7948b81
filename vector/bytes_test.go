package vector_test

import (
	"fmt"
	"math"
	"math/rand"
	"slices"
	"strings"
	"testing"

	"quire/api"
	"quire/vector"
	"quire/wire"
)

// bytesOf: what Write writes of l.
func bytesOf(l []api.Clock) string {
	var w wire.Writer
	vector.Write(&w, l)
	return string(w.Bytes())
}

// uints: the numbers one behind the other, as Uint.
func uints(l ...uint64) string {
	var w wire.Writer
	for _, n := range l {
		w.Uint(n)
	}
	return string(w.Bytes())
}

// crowd: n clients.
func crowd(n int) []api.Clock {
	var l []api.Clock
	for i := range uint64(n) {
		l = append(l, ck(3*i+1, i+1))
	}
	return l
}

func TestP7_2Write(t *testing.T) {
	last := strings.Repeat("\xFF", 7) + "\x0F" // MaxId
	for _, x := range []struct {
		what string
		l    []api.Clock
		want string
	}{
		{"nil", nil, "\x00"},
		{"empty", []api.Clock{}, "\x00"},
		{"one", vec(ck(1, 3)), "\x01\x01\x03"},
		{"two", vec(ck(1, 3), ck(5, 9)), "\x02\x01\x03\x04\x09"},
		{"two, out of order", vec(ck(5, 9), ck(1, 3)), "\x02\x01\x03\x04\x09"},
		{"neighbours", vec(ck(7, 1), ck(8, 2), ck(9, 3)), "\x03\x07\x01\x01\x02\x01\x03"},
		{"numbers of two bytes", vec(ck(300, 128), ck(600, 127)), "\x02\xAC\x02\x80\x01\xAC\x02\x7F"},
		{"the greatest", vec(ck(top, top)), "\x01" + last + last},
		{"the first and the last", vec(ck(top, 1), ck(1, top)), "\x02\x01" + last + "\xFE" + last[1:] + "\x01"},
		{"wrong ones, and one twice", vec(ck(0, 4), ck(5, 2), ck(top+1, 1), ck(7, 0), ck(5, 9), ck(5, 3)), "\x01\x05\x09"},
		{"a clock above MaxId", vec(ck(2, top+5)), "\x01\x02" + last},
	} {
		if got := bytesOf(aside(t, x.l)); got != x.want {
			t.Errorf("%s: %x, not %x", x.what, got, x.want)
		}
	}
}

func TestP7_2WriteAddsToWhatIsThere(t *testing.T) {
	var w wire.Writer
	w.Byte(9)
	vector.Write(&w, vec(ck(1, 3)))
	vector.Write(&w, nil)
	vector.Write(&w, vec(ck(4, 5)))
	w.Byte(8)
	if got := string(w.Bytes()); got != "\x09\x01\x01\x03\x00\x01\x04\x05\x08" {
		t.Errorf("%x", got)
	}
}

func TestP7_2ReadBack(t *testing.T) {
	l := [][]api.Clock{nil, vec(ck(1, 1)), vec(ck(top, top)), vec(ck(1, top), ck(top, 1)), vec(ck(top-1, 127), ck(top, 128)), crowd(127), crowd(128), crowd(api.MaxOps)}
	for _, x := range pairs() {
		l = append(l, x.a, x.b, x.join, x.meet)
	}
	for _, v := range l {
		r := wire.NewReader([]byte("\x07" + bytesOf(v) + "\x08\x80\x00"))
		r.Byte()
		if got := vector.Read(r); !slices.Equal(got, vector.Clean(v)) || r.Err() != api.OK || r.Left() != 3 {
			t.Errorf("%v: %v, %v, %d left", v, got, r.Err(), r.Left())
		}
		if b := r.Byte(); b != 8 {
			t.Errorf("%v: %d behind it", v, b)
		}
	}
}

func TestP7_2ReadSeveral(t *testing.T) {
	var w wire.Writer
	for _, x := range pairs() {
		vector.Write(&w, x.a)
	}
	r := wire.NewReader(w.Bytes())
	for _, x := range pairs() {
		checkClocks(t, x.what, vector.Read(r), vector.Clean(x.a))
	}
	if r.Err() != api.OK || r.Left() != 0 {
		t.Errorf("%v, %d left", r.Err(), r.Left())
	}
}

// checkRefusal: Read of b fails with e: there is none, nothing is taken away, and every read behind it fails, too.
func checkRefusal(t *testing.T, what, b string, e api.Errno) {
	t.Helper()
	r := wire.NewReader([]byte("\x07" + b))
	r.Byte()
	for range 2 {
		if got := vector.Read(r); len(got) != 0 || r.Err() != e || r.Left() != len(b) {
			t.Errorf("%s: %x: %v, %v, %d left; not %v", what, b, got, r.Err(), r.Left(), e)
		}
		if r.Byte() != 0 || r.Fixed() != 0 || r.Text(9) != "" || r.Int() != 0 || r.Uint(math.MaxUint64) != 0 || r.Left() != len(b) {
			t.Errorf("%s: %x: something is read behind the failure", what, b)
		}
	}
}

// Each fault is told as soon as it is seen: whatever stands behind it, nothing too, says nothing.
func TestP7_2ReadRefuses(t *testing.T) {
	ahead := uints(3, 1, 3, top-2, 5) // the third client is missing: it may be MaxId alone
	for _, x := range []struct {
		what, b string
		want    api.Errno
	}{
		{"the first client 0", uints(1, 0), api.ErrWireForm},
		{"the first client MaxId + 1", uints(1, top+1), api.ErrWireForm},
		{"the first client 2^64 - 1", uints(1, math.MaxUint64), api.ErrWireForm},
		{"a client twice", uints(2, 1, 1, 0), api.ErrWireForm},
		{"MaxId twice", uints(2, top, 1, 0), api.ErrWireForm},
		{"a client twice, the third one", ahead + uints(0), api.ErrWireForm},
		{"a later client MaxId + 1", ahead + uints(2), api.ErrWireForm},
		{"a later client far above MaxId", ahead + uints(top), api.ErrWireForm},
		{"a later client that goes round to 1", ahead + uints(math.MaxUint64-top+3), api.ErrWireForm},
		{"a later client that goes round to 0", ahead + uints(math.MaxUint64-top+2), api.ErrWireForm},
		{"a later client by 2^64 - 1", ahead + uints(math.MaxUint64), api.ErrWireForm},
		{"a client behind MaxId", uints(2, top, 1, 1), api.ErrWireForm},
		{"the first clock 0", uints(1, 1, 0), api.ErrWireForm},
		{"a later clock 0", ahead + uints(1, 0), api.ErrWireForm},
		{"the first clock MaxId + 1", uints(1, 1, top+1), api.ErrWireBig},
		{"the first clock 2^64 - 1", uints(1, 1, math.MaxUint64), api.ErrWireBig},
		{"a later clock MaxId + 1", ahead + uints(1, top+1), api.ErrWireBig},
		{"one more than MaxOps", uints(api.MaxOps + 1), api.ErrWireBig},
		{"2^64 - 1 of them", uints(math.MaxUint64), api.ErrWireBig},
		{"how many, a second spelling", "\x81\x00", api.ErrWireForm},
		{"how many, beyond 64 bits", strings.Repeat("\xFF", 9) + "\x02", api.ErrWireForm},
		{"a client of a second spelling", "\x01\x81\x00", api.ErrWireForm},
		{"a client 0 of a second spelling", "\x01\x80\x00", api.ErrWireForm},
		{"a client beyond 64 bits", "\x01" + strings.Repeat("\xFF", 9) + "\x02", api.ErrWireForm},
		{"a clock of a second spelling", "\x01\x01\x81\x00", api.ErrWireForm},
		{"a clock beyond 64 bits", "\x01\x01" + strings.Repeat("\xFF", 9) + "\x02", api.ErrWireForm},
	} {
		for _, behind := range []string{"", "\x00", "\x01", "\x01\x01", "\x80\x00", uints(top+1, top+1), strings.Repeat("\x01", 9)} {
			checkRefusal(t, x.what, x.b+behind, x.want)
		}
	}
}

func TestP7_2ReadShort(t *testing.T) {
	for _, l := range [][]api.Clock{nil, vec(ck(1, 1)), vec(ck(1, 3), ck(5, 9)), vec(ck(300, 128), ck(600, top), ck(top, top)), crowd(130)} {
		b := bytesOf(l)
		for n := range len(b) {
			checkRefusal(t, "cut", b[:n], api.ErrWireShort)
		}
	}
	checkRefusal(t, "MaxOps, and none of them", uints(api.MaxOps), api.ErrWireShort)
	checkRefusal(t, "MaxOps, and the last missing", uints(api.MaxOps)+strings.Repeat("\x01", 2*api.MaxOps-1), api.ErrWireShort)
}

func TestP7_2MoreThanMaxOps(t *testing.T) {
	b := bytesOf(crowd(api.MaxOps + 1))
	if !strings.HasPrefix(b, uints(api.MaxOps+1, 1, 1, 3, 2)) {
		t.Errorf("%x", b[:7])
	}
	checkRefusal(t, "one more than MaxOps", b, api.ErrWireBig)
}

// A Reader that failed ahead keeps its error.
func TestP7_2ReadBehindAFailure(t *testing.T) {
	for _, b := range []string{"\x01\x01\x03", "\x01\x00", "\x00", ""} {
		r := wire.NewReader([]byte(b))
		r.Fixed()
		if got := vector.Read(r); len(got) != 0 || r.Err() != api.ErrWireShort || r.Left() != len(b) {
			t.Errorf("%x: %v, %v, %d left", b, got, r.Err(), r.Left())
		}
	}
	r := wire.NewReader([]byte{9, 0})
	r.Uint(8)
	if got := vector.Read(r); len(got) != 0 || r.Err() != api.ErrWireBig || r.Left() != 2 {
		t.Errorf("%v, %v, %d left", got, r.Err(), r.Left())
	}
}

// A Read that fails ends itself alone: not a Try around it.
func TestP7_2ReadWithinATry(t *testing.T) {
	behind := false
	e := wire.Try(func() {
		vector.Read(wire.NewReader([]byte{1, 0}))
		vector.Read(wire.NewReader(nil))
		behind = true
	})
	if e != api.OK || !behind {
		t.Errorf("%v", e)
	}
}

func TestP7_3OneFormOfOneVector(t *testing.T) {
	x := rand.New(rand.NewSource(73))
	for range 1000 {
		l := drawnVector(x.Intn(9), x.Intn)
		form, other := vector.Clean(l), slices.Clone(l)
		for _, c := range form { // again, with one that tells less, in any order
			other = append(other, c, ck(c.Client, c.Clock-1), ck(0, c.Clock), ck(c.Client, 0))
		}
		x.Shuffle(len(other), func(i, j int) { other[i], other[j] = other[j], other[i] })
		same := [][]api.Clock{form, other, vector.Clean(other), vector.Join(l, other), vector.Meet(other, l)}
		for i, v := range same {
			if bytesOf(v) != bytesOf(l) || !vector.Within(v, l) || !vector.Within(l, v) {
				t.Fatalf("%d: %v, %x; not %v, %x", i, v, bytesOf(v), l, bytesOf(l))
			}
		}
	}
}

func TestP7_3UnlikeVectorsHaveUnlikeBytes(t *testing.T) {
	x := rand.New(rand.NewSource(74))
	seen := map[string]string{}
	for range 3000 {
		l := drawnVector(x.Intn(5), x.Intn)
		knows := fmt.Sprint(vector.Clean(l))
		if was, is := seen[bytesOf(l)]; is && was != knows {
			t.Fatalf("%x: %s and %s", bytesOf(l), was, knows)
		}
		seen[bytesOf(l)] = knows
	}
}

// What is read at all has one spelling: it is written with the bytes that were read.
func FuzzP7_2Read(f *testing.F) {
	for _, x := range pairs() {
		f.Add([]byte(bytesOf(x.a) + bytesOf(x.b)))
	}
	for _, b := range []string{uints(1, 0), uints(2, 1, 1, 0, 1), uints(1, 1, top+1), uints(2, top, 1, 1, 1), "\x81\x00"} {
		f.Add([]byte(b))
	}
	f.Fuzz(func(t *testing.T, b []byte) {
		r := wire.NewReader(b)
		l := vector.Read(r)
		if r.Err() != api.OK {
			if len(l) != 0 || r.Left() != len(b) {
				t.Errorf("%x: %v, %v, %d left", b, l, r.Err(), r.Left())
			}
			return
		}
		if !slices.Equal(l, vector.Clean(l)) || bytesOf(l) != string(b[:len(b)-r.Left()]) {
			t.Errorf("%x: %v, written %x", b, l, bytesOf(l))
		}
	})
}
