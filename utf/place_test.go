package utf_test

import (
	"math"
	"slices"
	"testing"

	"quire/api"
	"quire/utf"
)

// checkPlace16: what Place16 answers.
func checkPlace16(t *testing.T, s string, n, want int, e api.Errno) {
	t.Helper()
	if got, err := utf.Place16(s, n); got != want || err != e {
		t.Errorf("Place16(%q, %d): %d, %v, not %d, %v", s, n, got, err, want, e)
	}
}

// checkPlace: what Place answers.
func checkPlace(t *testing.T, s string, n, want int, e api.Errno) {
	t.Helper()
	if got, err := utf.Place(s, n); got != want || err != e {
		t.Errorf("Place(%q, %d): %d, %v, not %d, %v", s, n, got, err, want, e)
	}
}

func TestP3_2Places(t *testing.T) {
	for _, l := range somePieces() {
		s := spelt(l...)
		at := map[int]int{} // the units ahead of a place, and the runes
		for n := range len(l) + 1 {
			at[units(l[:n])] = n
		}
		for _, n := range places(units(l)) {
			if want, ok := at[n]; ok {
				checkPlace16(t, s, n, want, api.OK)
			} else {
				checkPlace16(t, s, n, 0, api.ErrUtfPlace)
			}
		}
		for _, n := range places(len(l)) {
			if n < 0 || n > len(l) {
				checkPlace(t, s, n, 0, api.ErrUtfPlace)
			} else {
				checkPlace(t, s, n, units(l[:n]), api.OK)
			}
		}
	}
}

func TestP3_2PlacesAtEdges(t *testing.T) {
	checkPlace16(t, "", 0, 0, api.OK)
	checkPlace16(t, "", 1, 0, api.ErrUtfPlace)
	checkPlace16(t, "", -1, 0, api.ErrUtfPlace)
	checkPlace(t, "", 0, 0, api.OK)
	checkPlace(t, "", 1, 0, api.ErrUtfPlace)
	checkPlace(t, "", -1, 0, api.ErrUtfPlace)
	checkPlace16(t, "\uFFFF", 1, 1, api.OK) // the last rune that is no pair
	checkPlace16(t, "\uFFFF", 2, 0, api.ErrUtfPlace)
	checkPlace16(t, "\U00010000", 1, 0, api.ErrUtfPlace) // the first one that is
	checkPlace16(t, "\U00010000", 2, 1, api.OK)
	checkPlace16(t, "\U0010FFFF", 1, 0, api.ErrUtfPlace)
	checkPlace16(t, "\U0010FFFF", 2, 1, api.OK)
	checkPlace16(t, "\U0010FFFF", 3, 0, api.ErrUtfPlace)
}

func TestP3_2Example(t *testing.T) {
	s := "a\U0001F600b"
	checkPlace16(t, s, 2, 0, api.ErrUtfPlace)
	checkPlace16(t, s, 3, 2, api.OK)
}

// The form is asked ahead of the place.
func TestP3_2PlacesOfNoText(t *testing.T) {
	for _, s := range wrongTexts() {
		for _, n := range places(6) {
			checkPlace16(t, s, n, 0, api.ErrUtfForm)
			checkPlace(t, s, n, 0, api.ErrUtfForm)
		}
	}
}

// gone: what Runes gives, till at most so many have come.
func gone(t *testing.T, runes func(func(int, rune) bool), most int) []rune {
	t.Helper()
	var l []rune
	for number, r := range runes {
		if number != len(l) {
			t.Errorf("number %d behind %d runes", number, len(l))
		}
		if l = append(l, r); len(l) >= most {
			break
		}
	}
	return l
}

func TestP3_2Runes(t *testing.T) {
	for _, l := range somePieces() {
		runes := utf.Runes(spelt(l...))
		if got := gone(t, runes, math.MaxInt); !slices.Equal(got, l) {
			t.Errorf("%X, not %X", got, l)
		}
		for n := 1; n <= len(l); n++ { // left at any rune, and gone through again
			if got := gone(t, runes, n); !slices.Equal(got, l[:n]) {
				t.Errorf("%X, left behind %d: %X", l, n, got)
			}
		}
		if got := gone(t, runes, math.MaxInt); !slices.Equal(got, l) {
			t.Errorf("again: %X, not %X", got, l)
		}
	}
}

// A rune isn't given any more to what has said that it is enough.
func TestP3_2RunesLeft(t *testing.T) {
	asked := 0
	utf.Runes("abc")(func(int, rune) bool {
		asked++
		return asked < 2
	})
	if asked != 2 {
		t.Errorf("%d runes, not 2", asked)
	}
}

// Going through one and the same within itself, each goes its own way.
func TestP3_2RunesWithinRunes(t *testing.T) {
	runes := utf.Runes("a\U0001F600b")
	var got []rune
	for _, r := range runes {
		got = append(got, r)
		got = append(got, gone(t, runes, 2)...)
	}
	if want := []rune{'a', 'a', 0x1F600, 0x1F600, 'a', 0x1F600, 'b', 'a', 0x1F600}; !slices.Equal(got, want) {
		t.Errorf("%X, not %X", got, want)
	}
}

func TestP3_2RunesOfNoText(t *testing.T) {
	for _, s := range wrongTexts() {
		runes := utf.Runes(s)
		if runes == nil {
			t.Fatalf("% X: a nil iterator", s)
		}
		for range 2 {
			if got := gone(t, runes, math.MaxInt); len(got) > 0 {
				t.Errorf("% X: %X", s, got)
			}
		}
	}
	if got := gone(t, utf.Runes(""), math.MaxInt); len(got) > 0 {
		t.Errorf("the empty text: %X", got)
	}
}

func TestP3_3Place16OfPlace(t *testing.T) {
	for _, l := range somePieces() {
		s := spelt(l...)
		for n := range len(l) + 1 {
			at, e := utf.Place(s, n)
			if e != api.OK || at != units(l[:n]) {
				t.Errorf("%X, place %d: %d, %v", l, n, at, e)
			}
			checkPlace16(t, s, at, n, api.OK)
		}
		if at, e := utf.Place(s, utf.Len(s)); at != utf.Len16(s) || e != api.OK {
			t.Errorf("%X, the last place: %d, %v", l, at, e)
		}
	}
}
