package utf_test

import (
	"math"
	"math/rand"
	"strings"
	"testing"
	"unsafe"

	"quire/api"
	"quire/utf"
)

// edges: runes at the edges of one, two, three and four bytes, around the surrogates, and at the edge of two bytes of UTF-16.
var edges = []rune{0, 1, 'a', 0x7F, 0x80, 0xE9, 0x7FF, 0x800, 0x20AC, 0xD7FF, 0xE000, 0xFEFF, 0xFFFD, 0xFFFE, 0xFFFF, 0x10000, 0x10001, 0x1F600, 0xFFFFF, 0x100000, 0x10FFFE, 0x10FFFF}

// coded: r in a form of so many bytes, the shortest or not, be r a surrogate or above all runes or not.
func coded(r rune, bytes int) string {
	if bytes == 1 {
		return string([]byte{byte(r)})
	}
	b := make([]byte, bytes)
	for i := bytes - 1; i > 0; i-- {
		b[i] = 0x80 | byte(r&0x3F)
		r >>= 6
	}
	b[0] = byte(int(0xF00)>>bytes) | byte(r)
	return string(b)
}

// shortest: in how many bytes r is told at least.
func shortest(r rune) int {
	switch {
	case r < 0x80:
		return 1
	case r < 0x800:
		return 2
	case r < 0x10000:
		return 3
	}
	return 4
}

func surrogate(r rune) bool { return 0xD800 <= r && r <= 0xDFFF }

// spelt: the text of l, by coded alone.
func spelt(l ...rune) string {
	var s strings.Builder
	for _, r := range l {
		s.WriteString(coded(r, shortest(r)))
	}
	return s.String()
}

// units: how many units of UTF-16 the runes of l take.
func units(l []rune) int {
	n := len(l)
	for _, r := range l {
		if r >= 0x10000 {
			n++
		}
	}
	return n
}

// somePieces: lists of runes: none, one, each edge behind and ahead of an a, all of them, and some by chance.
func somePieces() [][]rune {
	l := [][]rune{nil, {'a'}, {'a', 0x1F600, 'b'}, {0x1F600, 0x1F600}, edges}
	for _, r := range edges {
		l = append(l, []rune{r}, []rune{'a', r}, []rune{r, 'a'}, []rune{r, r, r})
	}
	rnd := rand.New(rand.NewSource(3))
	for range 200 {
		var piece []rune
		for range rnd.Intn(30) {
			piece = append(piece, edges[rnd.Intn(len(edges))])
		}
		l = append(l, piece)
	}
	return l
}

// wrongTexts: what is no text, alone and with texts around it.
func wrongTexts() []string {
	wrong := []string{
		"\x80", "\xBF", "\xC0", "\xC1", "\xF5", "\xF8", "\xFE", "\xFF",
		"\xC0\x80", "\xC1\xBF", "\xE0\x80\x80", "\xE0\x9F\xBF", "\xF0\x80\x80\x80", "\xF0\x8F\xBF\xBF", // not the shortest forms
		"\xED\xA0\x80", "\xED\xAF\xBF", "\xED\xB0\x80", "\xED\xBF\xBF", "\xED\xA0\xBD\xED\xB8\x80", // surrogates, a pair of them
		"\xF4\x90\x80\x80", "\xF4\xBF\xBF\xBF", "\xF5\x80\x80\x80", "\xF7\xBF\xBF\xBF", "\xF8\x88\x80\x80\x80", // above 10FFFF
		"\xC3", "\xE2", "\xE2\x82", "\xF0", "\xF0\x9F", "\xF0\x9F\x98", // broken off
		"\xC3\xC3\xA9", "\xE2\x82\xE2", "\xF0\x9F\x98\xF0", "\xC3\xA9\xA9", "\xE2\x82\xAC\x80", // gone on otherwise, or too far
	}
	var l []string
	for _, s := range wrong {
		l = append(l, s, "a"+s, s+"a", "\U0001F600"+s, s+"\U0001F600", "ab"+s+"\U0001F600c", strings.Repeat("a", 64)+s+strings.Repeat("b", 64))
	}
	return l
}

func TestP3_1CheckOfEachRune(t *testing.T) {
	for r := range rune(0x200000) {
		for bytes := shortest(r); bytes <= 4; bytes++ {
			want := bytes == shortest(r) && !surrogate(r) && r <= 0x10FFFF
			if s := coded(r, bytes); utf.Check(s) != want {
				t.Errorf("%X in %d bytes, % X: not %v", r, bytes, s, want)
			}
		}
	}
}

func TestP3_1Check(t *testing.T) {
	for _, l := range somePieces() {
		if s := spelt(l...); !utf.Check(s) {
			t.Errorf("%X: no text", l)
		}
	}
	for _, s := range wrongTexts() {
		if utf.Check(s) {
			t.Errorf("% X: a text", s)
		}
	}
	for _, r := range edges { // all that is broken off, at either end
		s := coded(r, shortest(r))
		for n := 1; n < len(s); n++ {
			if utf.Check(s[:n]) || utf.Check(s[n:]) || utf.Check("a"+s[:n]) || utf.Check(s[n:]+"a") {
				t.Errorf("%X, broken at %d: a text", r, n)
			}
		}
	}
}

func TestP3_1Lengths(t *testing.T) {
	for _, l := range somePieces() {
		s := spelt(l...)
		if utf.Len(s) != len(l) || utf.Len16(s) != units(l) {
			t.Errorf("%X: %d and %d, not %d and %d", l, utf.Len(s), utf.Len16(s), len(l), units(l))
		}
	}
	for r := range rune(0x110000) {
		if surrogate(r) {
			continue
		}
		if s := spelt(r); utf.Len(s) != 1 || utf.Len16(s) != units([]rune{r}) {
			t.Errorf("%X: %d and %d", r, utf.Len(s), utf.Len16(s))
		}
	}
}

// places: numbers within n and around it, and as far off as there are.
func places(n int) []int {
	l := []int{math.MinInt, math.MinInt + 1, math.MinInt32, -2, math.MaxInt32, math.MaxInt - 1, math.MaxInt}
	for i := -1; i <= n+2; i++ {
		l = append(l, i)
	}
	return l
}

func TestP3_1Cut(t *testing.T) {
	for _, l := range somePieces() {
		s := spelt(l...)
		for _, from := range places(len(l)) {
			for _, to := range places(len(l)) {
				want := ""
				if first, last := max(from, 0), min(to, len(l)); first < last {
					want = spelt(l[first:last]...)
				}
				if got := utf.Cut(s, from, to); got != want {
					t.Fatalf("%X from %d to %d: %q, not %q", l, from, to, got, want)
				}
			}
		}
	}
}

// What is answered is new memory.
func TestP3_1CutIsACopy(t *testing.T) {
	s := spelt(edges...)
	if got := utf.Cut(s, 0, len(edges)); got != s || unsafe.StringData(got) == unsafe.StringData(s) {
		t.Errorf("%q shares its memory", got)
	}
}

func TestP3_1OfNoText(t *testing.T) {
	for _, s := range wrongTexts() {
		if utf.Len(s) != 0 || utf.Len16(s) != 0 {
			t.Errorf("% X: %d and %d", s, utf.Len(s), utf.Len16(s))
		}
		for _, from := range places(2) {
			for _, to := range places(2) {
				if got := utf.Cut(s, from, to); got != "" {
					t.Errorf("% X from %d to %d: %q", s, from, to, got)
				}
			}
		}
	}
}

func TestP3_1Example(t *testing.T) {
	if s := "a\U0001F600b"; utf.Len(s) != 3 || utf.Len16(s) != 4 {
		t.Errorf("%d and %d", utf.Len(s), utf.Len16(s))
	}
}

func TestP3_3LengthOfTwoTexts(t *testing.T) {
	pieces := somePieces()
	for _, a := range pieces {
		for _, b := range pieces {
			s, u := spelt(a...), spelt(b...)
			if got := utf.Len16(s + u); got != utf.Len16(s)+utf.Len16(u) || got != units(a)+units(b) {
				t.Fatalf("%X and %X: %d, not %d and %d", a, b, got, utf.Len16(s), utf.Len16(u))
			}
			if got := utf.Len(s + u); got != len(a)+len(b) {
				t.Fatalf("%X and %X: %d runes", a, b, got)
			}
		}
	}
}

func FuzzTexts(f *testing.F) {
	f.Add("", "a\U0001F600b", 2, 3)
	f.Add("\xED\xA0\x80", "\xC0\x80", -1, 1)
	f.Add("\uFFFF\U00010000", "\xF4\x90\x80\x80", 0, 9)
	f.Fuzz(func(t *testing.T, s, u string, from, to int) {
		if utf.Check(s) && utf.Check(u) && utf.Len16(s+u) != utf.Len16(s)+utf.Len16(u) {
			t.Errorf("%q and %q: %d", s, u, utf.Len16(s+u))
		}
		if utf.Cut(s, math.MinInt, from)+utf.Cut(s, from, math.MaxInt) != utf.Cut(s, 0, math.MaxInt) {
			t.Errorf("%q, cut at %d, isn't whole", s, from)
		}
		if n := utf.Len(utf.Cut(s, from, to)); n != 0 && n > to-max(from, 0) {
			t.Errorf("%q from %d to %d: %d runes", s, from, to, n)
		}
		for _, n := range []int{from, to} {
			at, e := utf.Place(s, n)
			if back, e2 := utf.Place16(s, at); e == api.OK && (back != n || e2 != api.OK) {
				t.Errorf("%q, place %d: %d, and back %d, %v", s, n, at, back, e2)
			}
		}
	})
}
