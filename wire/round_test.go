package wire_test

import (
	"bytes"
	"math"
	"math/rand"
	"testing"

	"quire/api"
	"quire/wire"
)

// piece: something that is written and read back.
type piece struct {
	kind int
	u    uint64
	s    string
}

func (p piece) write(w *wire.Writer) {
	switch p.kind {
	case 0:
		w.Uint(p.u)
	case 1:
		w.Int(int64(p.u))
	case 2:
		w.Byte(byte(p.u))
	case 3:
		w.Fixed(p.u)
	case 4:
		w.Text(p.s)
	}
}

// back: whether r reads what was written.
func (p piece) back(r *wire.Reader) bool {
	switch p.kind {
	case 0:
		return r.Uint(p.u) == p.u
	case 1:
		return r.Int() == int64(p.u)
	case 2:
		return r.Byte() == byte(p.u)
	case 3:
		return r.Fixed() == p.u
	}
	return r.Text(len(p.s)) == p.s
}

func somePieces(rnd *rand.Rand) []piece {
	var l []piece
	for range rnd.Intn(20) {
		s := make([]byte, rnd.Intn(300))
		rnd.Read(s)
		l = append(l, piece{rnd.Intn(5), rnd.Uint64() >> rnd.Intn(65), string(s)})
	}
	return l
}

func TestP1_4WhatIsWrittenIsReadBack(t *testing.T) {
	rnd := rand.New(rand.NewSource(1))
	for range 2000 {
		l := somePieces(rnd)
		b := written(func(w *wire.Writer) {
			for _, p := range l {
				p.write(w)
			}
		})
		r := wire.NewReader(b)
		for _, p := range l {
			if !p.back(r) || r.Err() != api.OK {
				t.Fatalf("kind %d, %d, %q isn't read back: %v", p.kind, p.u, p.s, r.Err())
			}
		}
		checkReader(t, "all is read", r, api.OK, 0)
	}
}

func TestP1_4NumbersAroundEachPower(t *testing.T) {
	for shift := range 64 {
		for d := range uint64(5) {
			n := uint64(1)<<shift + d - 2
			r := wire.NewReader(uintBytes(n))
			if got := r.Uint(math.MaxUint64); got != n {
				t.Errorf("%d: %d", n, got)
			}
			checkReader(t, "Uint", r, api.OK, 0)
			r = wire.NewReader(written(func(w *wire.Writer) { w.Int(int64(n)) }))
			if got := r.Int(); got != int64(n) {
				t.Errorf("%d: %d", int64(n), got)
			}
			checkReader(t, "Int", r, api.OK, 0)
		}
	}
}

// checkSpelling: if a number is read from b, the bytes that were taken are those that it is written as.
func checkSpelling(t *testing.T, b []byte) {
	t.Helper()
	r := wire.NewReader(b)
	n := r.Uint(math.MaxUint64)
	if r.Err() != api.OK {
		return
	}
	checkBytes(t, "another spelling of a Uint", b[:len(b)-r.Left()], uintBytes(n))
	r = wire.NewReader(b)
	i := r.Int()
	checkBytes(t, "another spelling of an Int", b[:len(b)-r.Left()], written(func(w *wire.Writer) { w.Int(i) }))
}

func TestP1_4OneSpelling(t *testing.T) {
	for x := range 1 << 16 {
		checkSpelling(t, []byte{byte(x >> 8), byte(x)})
	}
	edges := []byte{0, 1, 2, 0x7F, 0x80, 0x81, 0xFF}
	for n := range 11 {
		for _, ahead := range edges {
			for _, last := range edges {
				for _, behind := range edges {
					checkSpelling(t, append(bytes.Repeat([]byte{ahead}, n), last, behind))
				}
			}
		}
	}
}

func FuzzReader(f *testing.F) {
	f.Add([]byte{}, 0)
	f.Add([]byte{0xAC, 0x02}, 300)
	f.Add(nines(1), -1)
	f.Add([]byte{3, 'a', 'b', 'c', 0x80, 0}, 3)
	f.Fuzz(func(t *testing.T, b []byte, most int) {
		was := bytes.Clone(b)
		checkSpelling(t, b)
		r := wire.NewReader(b)
		left := r.Left()
		for range 4 {
			s := r.Text(most)
			if len(s) > max(most, 0) {
				t.Errorf("Text(%d): %d bytes", most, len(s))
			}
			if n := r.Uint(uint64(most)); n > uint64(most) {
				t.Errorf("Uint(%d): %d", uint64(most), n)
			}
			r.Int()
			r.Byte()
			r.Fixed()
			if r.Left() > left || r.Err() == api.OK && r.Left() == left {
				t.Errorf("%d left behind %d: %v", r.Left(), left, r.Err())
			}
			left = r.Left()
		}
		checkBytes(t, "handed in", b, was)
	})
}
