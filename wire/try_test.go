package wire_test

import (
	"hash/crc32"
	"math"
	"testing"

	"quire/api"
	"quire/wire"
)

func TestP1_3TryToTheEnd(t *testing.T) {
	ran := 0
	if e := wire.Try(func() { ran++ }); e != api.OK || ran != 1 {
		t.Errorf("%v, ran %d times", e, ran)
	}
}

func TestP1_3FailEndsThere(t *testing.T) {
	for fail, want := range map[api.Errno]api.Errno{
		api.OK:              api.ErrWireForm,
		api.ErrWireShort:    api.ErrWireShort,
		api.ErrWireForm:     api.ErrWireForm,
		api.ErrWireBig:      api.ErrWireBig,
		api.ErrWorldDown:    api.ErrWorldDown,
		1:                   1,
		-1:                  -1,
		math.MaxInt:         math.MaxInt,
		api.Errno(-1 << 63): api.Errno(-1 << 63),
	} {
		steps := ""
		e := wire.Try(func() {
			defer func() { steps += "d" }()
			steps += "a"
			wire.Fail(fail)
			steps += "b"
		})
		if e != want || steps != "ad" {
			t.Errorf("Fail(%d): %v, steps %s", fail, e, steps)
		}
	}
}

func TestP1_3FailFromDeep(t *testing.T) {
	var down func(n int)
	down = func(n int) {
		if n == 0 {
			wire.Fail(77)
		}
		down(n - 1)
		t.Error("behind Fail")
	}
	if e := wire.Try(func() { down(1000) }); e != 77 {
		t.Errorf("%v", e)
	}
}

func TestP1_3TriesWithinTries(t *testing.T) {
	steps := ""
	outer := wire.Try(func() {
		middle := wire.Try(func() {
			if inner := wire.Try(func() { wire.Fail(1) }); inner != 1 {
				t.Errorf("inner: %v", inner)
			}
			steps += "a"
			wire.Fail(2)
			steps += "b"
		})
		if middle != 2 {
			t.Errorf("middle: %v", middle)
		}
		steps += "c"
		if again := wire.Try(func() {}); again != api.OK {
			t.Errorf("again: %v", again)
		}
		wire.Fail(0)
		steps += "d"
	})
	if outer != api.ErrWireForm || steps != "ac" {
		t.Errorf("outer: %v, steps %s", outer, steps)
	}
	if e := wire.Try(func() { wire.Try(func() { wire.Fail(3) }) }); e != api.OK {
		t.Errorf("a Fail ended more than the innermost: %v", e)
	}
}

func TestP1_3ManyTriesWithinTries(t *testing.T) {
	var nest func(n api.Errno) api.Errno
	nest = func(n api.Errno) api.Errno {
		return wire.Try(func() {
			if n == 0 {
				wire.Fail(1)
			}
			wire.Fail(nest(n-1) + 1)
		})
	}
	if e := nest(1000); e != 1001 {
		t.Errorf("%v", e)
	}
}

// A Reader's own failures stay its own: they end no Try of the caller's.
func TestP1_3ReaderWithinTry(t *testing.T) {
	behind := false
	e := wire.Try(func() {
		r := wire.NewReader(nil)
		r.Byte()
		behind = true
		wire.Fail(r.Err())
	})
	if e != api.ErrWireShort || !behind {
		t.Errorf("%v, behind the read: %v", e, behind)
	}
}

func TestP1_3Sum(t *testing.T) {
	for s, want := range map[string]uint32{"": 0, "a": 0xE8B7BE43, "123456789": 0xCBF43926, "\x00": 0xD202EF8D, "\xFF\xFF\xFF\xFF": 0xFFFFFFFF} {
		if got := wire.Sum([]byte(s)); got != want {
			t.Errorf("Sum(%q): %X, not %X", s, got, want)
		}
	}
	if got := wire.Sum(nil); got != 0 {
		t.Errorf("Sum(nil): %X", got)
	}
}

func TestP1_3SumOfAnyBytes(t *testing.T) {
	for b := range 256 {
		one := []byte{byte(b)}
		if got, want := wire.Sum(one), crc32.ChecksumIEEE(one); got != want {
			t.Errorf("Sum(% X): %X, not %X", one, got, want)
		}
	}
	long := make([]byte, 1<<20+1)
	for i := range long {
		long[i] = byte(i * i >> 3)
	}
	for _, n := range []int{2, 3, 255, 256, 4097, len(long)} {
		if got, want := wire.Sum(long[:n]), crc32.ChecksumIEEE(long[:n]); got != want {
			t.Errorf("Sum of %d bytes: %X, not %X", n, got, want)
		}
	}
}
