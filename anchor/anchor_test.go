package anchor_test

import (
	"math"
	"slices"
	"testing"

	"quire/api"
	"quire/doc"
)

func TestP19Example(t *testing.T) {
	for want, place := range map[int]int{1: 1, 2: 0} {
		d := of(t, up(text(id(1, 1), none, none, "abc")))
		a, some := made(t, d, 1, true)
		if a != behind(id(1, 1)) || !some {
			t.Errorf("Make: %v, %t", a, some)
		}
		makes(t, d, 2, inserts(place, "x"))
		checkPlace(t, "the example", d, a, want)
	}
}

// documents: some, with the units of each that aren't deleted, in order.
func documents(t *testing.T) map[string]*doc.Doc {
	abc := up(text(id(1, 1), none, none, "abc"))
	return map[string]*doc.Doc{
		"empty":                    doc.New(),
		"without units":            of(t, up(set(id(1, 1), 1, none, "k", null), mark(id(1, 2), 1, begin, end, "k", null))),
		"all of which is deleted":  of(t, abc, turning(turn(1, 1, 4, 1))),
		"of one rune":              of(t, up(text(id(1, 1), none, none, "a"))),
		"of an embed":              of(t, up(embed(id(1, 1), none, none, null))),
		"of a text":                of(t, abc),
		"the first one is deleted": of(t, abc, turning(turn(1, 1, 2, 1))),
		"one within is deleted":    of(t, abc, turning(turn(1, 2, 3, 3))),
		"the last one is deleted":  of(t, abc, turning(turn(1, 3, 4, 1))),
		"shown again":              of(t, abc, turning(turn(1, 1, 4, 1)), turning(turn(1, 1, 3, 2))),
		"of several writers":       of(t, abc, up(text(id(2, 1), id(1, 1), id(1, 2), "xy")), up(embed(id(3, 1), id(2, 1), id(2, 2), null)), turning(turn(2, 1, 2, 1), turn(1, 3, 4, 1))),
		"that knows a void text":   of(t, abc, up(text(id(2, 1), id(1, 3), id(1, 1), "v")), up(text(id(3, 1), id(1, 3), none, "w"))),
	}
}

func TestP19_1Make(t *testing.T) {
	for what, d := range documents(t) {
		units := d.Units()
		for _, place := range []int{math.MinInt, -2, -1, len(units) + 1, len(units) + 2, math.MaxInt} {
			for _, after := range []bool{false, true} {
				if a, some := made(t, d, place, after); a != (api.Anchor{}) || some {
					t.Errorf("%s: Make at %d, %t: %v, %t", what, place, after, a, some)
				}
			}
		}
		for place := range len(units) + 1 {
			want := begin
			if place > 0 {
				want = behind(units[place-1])
			}
			if a, some := made(t, d, place, true); a != want || !some {
				t.Errorf("%s: Make behind %d: %v, %t, not %v", what, place, a, some, want)
			}
			if want = end; place < len(units) {
				want = ahead(units[place])
			}
			if a, some := made(t, d, place, false); a != want || !some {
				t.Errorf("%s: Make ahead of %d: %v, %t, not %v", what, place, a, some, want)
			}
		}
	}
}

func TestP19_1MakeByHand(t *testing.T) {
	d := documents(t)["of several writers"] // a, x (deleted), the embed, y, b, c (deleted)
	for place, want := range []struct{ with, without api.Anchor }{
		{begin, ahead(id(1, 1))}, {behind(id(1, 1)), ahead(id(3, 1))}, {behind(id(3, 1)), ahead(id(2, 2))}, {behind(id(2, 2)), ahead(id(1, 2))}, {behind(id(1, 2)), end},
	} {
		if a, _ := made(t, d, place, true); a != want.with {
			t.Errorf("%d: %v, not %v", place, a, want.with)
		}
		if a, _ := made(t, d, place, false); a != want.without {
			t.Errorf("%d: %v, not %v", place, a, want.without)
		}
	}
}

func TestP19_1Place(t *testing.T) {
	for what, d := range documents(t) {
		n := 0 // so many that aren't deleted stand ahead
		for _, u := range d.Seq().All() {
			checkPlace(t, what, d, ahead(u.Id), n)
			if slices.Contains(d.Units(), u.Id) {
				n++
			}
			checkPlace(t, what, d, behind(u.Id), n)
		}
		checkPlace(t, what, d, begin, 0)
		checkPlace(t, what, d, end, n)
		for _, x := range []api.Id{id(9, 1), id(1, 9), id(9, 9), id(0, 1), id(1, 0), id(top, top), id(top+1, 1), id(1, top+1), id(0, math.MaxUint64), id(math.MaxUint64, math.MaxUint64)} {
			checkPlace(t, what, d, ahead(x), -1)
			checkPlace(t, what, d, behind(x), -1)
		}
	}
}

func TestP19_1PlaceOfWhatIsNoUnit(t *testing.T) {
	d := of(t, up(text(id(1, 1), none, none, "abc")), up(mark(id(1, 4), 1, begin, end, "k", null), set(id(1, 5), 1, none, "k", null)))
	apply(t, d, up(text(id(2, 1), id(1, 3), id(1, 1), "void")))
	apply(t, d, up(text(id(3, 2), id(3, 1), none, "waits")))
	apply(t, d, turning(turn(4, 1, 9, 2)))
	for what, x := range map[string]api.Id{"a mark": id(1, 4), "an entry": id(1, 5), "not known": id(1, 6), "void": id(2, 1), "void, the last one": id(2, 4), "waits": id(3, 2), "ahead of what waits": id(3, 1), "turned alone": id(4, 1)} {
		checkPlace(t, what, d, ahead(x), -1)
		checkPlace(t, what, d, behind(x), -1)
	}
}

func TestP19_1PlaceByHand(t *testing.T) {
	d := documents(t)["of several writers"] // a, x (deleted), the embed, y, b, c (deleted)
	for x, want := range map[api.Id][2]int{id(1, 1): {0, 1}, id(2, 1): {1, 1}, id(3, 1): {1, 2}, id(2, 2): {2, 3}, id(1, 2): {3, 4}, id(1, 3): {4, 4}} {
		checkPlace(t, "by hand", d, ahead(x), want[0])
		checkPlace(t, "by hand", d, behind(x), want[1])
	}
}

func TestP19_3PlaceOfMake(t *testing.T) {
	for what, d := range documents(t) {
		for place := range len(d.Units()) + 1 {
			for _, after := range []bool{false, true} {
				a, _ := made(t, d, place, after)
				checkPlace(t, what, d, a, place)
			}
		}
	}
}

// TestP19_3StaysByHand: one thing that is done beside an anchor at 2 of abcd.
func TestP19_3StaysByHand(t *testing.T) {
	for _, x := range []struct {
		what          string
		does          func(d *doc.Doc)
		with, without int // where the anchors are then
	}{
		{"nothing", func(d *doc.Doc) {}, 2, 2},
		{"a text at the beginning", func(d *doc.Doc) { makes(t, d, 2, inserts(0, "xyz")) }, 5, 5},
		{"a text right ahead of the unit ahead", func(d *doc.Doc) { makes(t, d, 2, inserts(1, "xyz")) }, 5, 5},
		{"a text there", func(d *doc.Doc) { makes(t, d, 2, inserts(2, "xyz")) }, 2, 5},
		{"a text right behind the unit behind", func(d *doc.Doc) { makes(t, d, 2, inserts(3, "xyz")) }, 2, 2},
		{"a text at the end", func(d *doc.Doc) { makes(t, d, 2, inserts(4, "xyz")) }, 2, 2},
		{"an embed at the beginning", func(d *doc.Doc) { makes(t, d, 2, embeds(0)) }, 3, 3},
		{"an embed there", func(d *doc.Doc) { makes(t, d, 2, embeds(2)) }, 2, 3},
		{"an embed at the end", func(d *doc.Doc) { makes(t, d, 2, embeds(4)) }, 2, 2},
		{"the first one deleted", func(d *doc.Doc) { makes(t, d, 2, deletes(0, 1)) }, 1, 1},
		{"the one ahead deleted", func(d *doc.Doc) { makes(t, d, 2, deletes(1, 1)) }, 1, 1},
		{"the one behind deleted", func(d *doc.Doc) { makes(t, d, 2, deletes(2, 1)) }, 2, 2},
		{"both deleted", func(d *doc.Doc) { makes(t, d, 2, deletes(1, 2)) }, 1, 1},
		{"the last one deleted", func(d *doc.Doc) { makes(t, d, 2, deletes(3, 1)) }, 2, 2},
		{"all deleted", func(d *doc.Doc) { makes(t, d, 2, deletes(0, 4)) }, 0, 0},
		{"all deleted, and a text put in", func(d *doc.Doc) {
			makes(t, d, 2, deletes(0, 4))
			apply(t, d, up(text(id(2, 1), id(1, 1), id(1, 2), "x")))
		}, 1, 1},
		{"all deleted, and a text put in there", func(d *doc.Doc) {
			makes(t, d, 2, deletes(0, 4))
			apply(t, d, up(text(id(2, 1), id(1, 2), id(1, 3), "x")))
		}, 0, 1},
		{"both deleted and brought back", func(d *doc.Doc) { makes(t, d, 2, deletes(1, 2)); apply(t, d, turning(turn(1, 2, 4, 2))) }, 2, 2},
		{"all deleted, those ahead brought back", func(d *doc.Doc) { makes(t, d, 2, deletes(0, 4)); apply(t, d, turning(turn(1, 1, 3, 2))) }, 2, 2},
		{"all deleted, those behind brought back", func(d *doc.Doc) { makes(t, d, 2, deletes(0, 4)); apply(t, d, turning(turn(1, 3, 5, 2))) }, 0, 0},
		{"a mark, an entry", func(d *doc.Doc) {
			makes(t, d, 2, api.Edit{Kind: api.EditMark, At: 0, N: 4, Key: "k", V: integer(1)})
			makes(t, d, 2, api.Edit{Kind: api.EditSet, Key: "k", V: integer(1)})
		}, 2, 2},
	} {
		d := of(t, up(text(id(1, 1), none, none, "abcd")))
		with, _ := made(t, d, 2, true)
		without, _ := made(t, d, 2, false)
		x.does(d)
		checkPlace(t, x.what+", with after", d, with, x.with)
		checkPlace(t, x.what+", without", d, without, x.without)
	}
}

// TestP19_3TheEnds: an anchor that stays with no unit is at the beginning, or at the end, whatever comes.
func TestP19_3TheEnds(t *testing.T) {
	d := doc.New()
	first, _ := made(t, d, 0, true)
	last, _ := made(t, d, 0, false)
	for n, place := range []int{0, 0, 2, 1} {
		makes(t, d, 1, inserts(place, "x"))
		checkPlace(t, "the beginning", d, first, 0)
		checkPlace(t, "the end", d, last, n+1)
	}
	makes(t, d, 1, deletes(1, 3))
	checkPlace(t, "the beginning", d, first, 0)
	checkPlace(t, "the end", d, last, 1)
}

// kept: an anchor, and on which side of it each unit stood that was there.
type kept struct {
	a      api.Anchor
	behind map[api.Id]bool
}

func keep(t *testing.T, next func(int) int, d *doc.Doc) kept {
	t.Helper()
	place := next(len(d.Units()) + 1)
	a, some := made(t, d, place, next(2) == 0)
	if !some {
		t.Fatalf("no anchor at %d", place)
	}
	if place > 0 && next(4) == 0 { // of a unit that may be deleted
		u, _ := d.Seq().At(next(d.Seq().Len()))
		a = api.Anchor{Id: u.Id, After: next(2) == 0}
	} else {
		checkPlace(t, "Place of Make", d, a, place)
	}
	return kept{a, sides(d, a)}
}

// sides: of each unit, deleted or not, whether it stands behind a.
func sides(d *doc.Doc, a api.Anchor) map[api.Id]bool {
	l := map[api.Id]bool{}
	passed := a == begin
	for _, u := range d.Seq().All() {
		if u.Id == a.Id {
			l[u.Id], passed = !a.After, true
		} else {
			l[u.Id] = passed
		}
	}
	return l
}

// checkStays: those that stood behind the anchor must stand behind it, and all others ahead.
func checkStays(t *testing.T, d *doc.Doc, k kept) {
	t.Helper()
	n, there := placeOf(t, d, k.a)
	units := d.Units()
	if !there || n < 0 || n > len(units) {
		t.Fatalf("%v: %d of %d, %t", k.a, n, len(units), there)
	}
	now := sides(d, k.a)
	for i, u := range units {
		if now[u] != (i >= n) {
			t.Fatalf("%v, at %d of %v: %v", k.a, n, units, u)
		}
	}
	for u, side := range k.behind {
		if now[u] != side {
			t.Fatalf("%v stood on another side of %v", u, k.a)
		}
	}
}

// checkStories: anchors are made in documents that hear of one another late, and asked for in all that know their units.
func checkStories(t *testing.T, next func(int) int) {
	t.Helper()
	docs := []*doc.Doc{doc.New(), doc.New(), doc.New()}
	var l []kept
	for range 2 + next(16) {
		k := next(len(docs))
		write(t, next, docs[k], uint64(k+1))
		if next(3) == 0 {
			l = append(l, keep(t, next, docs[k]))
		}
		if next(3) == 0 {
			hears(t, docs[next(len(docs))], docs[next(len(docs))])
		}
	}
	for _, d := range docs[1:] {
		hears(t, docs[0], d)
	}
	for _, d := range docs[1:] {
		hears(t, d, docs[0])
	}
	for _, k := range l {
		for _, d := range docs {
			checkStays(t, d, k)
		}
	}
}

func TestP19_3Drawn(t *testing.T) {
	for seed := range int64(600) {
		checkStories(t, drawn(seed))
	}
}

func FuzzP19_3Stories(f *testing.F) {
	f.Add([]byte{3, 1, 2, 6, 4, 5, 6, 7, 8, 9, 8, 7, 6, 5, 4, 3, 2, 1})
	f.Fuzz(func(t *testing.T, b []byte) { checkStories(t, given(b)) })
}

// TestP19_3Long: places in a long document of which much is deleted.
func TestP19_3Long(t *testing.T) {
	d := doc.New()
	left := none
	for n := uint64(1); n <= 20; n++ {
		apply(t, d, up(text(id(n, 1), left, none, string(slices.Repeat([]rune{'a'}, 1000)))))
		left = id(n, 1000)
	}
	for n := uint64(1); n < 1000; n += 2 {
		apply(t, d, turning(turn(7, n, n+1, 1), turn(8, n, n+1, 3), turn(9, n, n+1, 2)))
	}
	checkPlace(t, "long", d, ahead(id(7, 1)), 6000)
	checkPlace(t, "long", d, behind(id(7, 500)), 6250)
	checkPlace(t, "long", d, ahead(id(9, 1)), 7000)
	checkPlace(t, "long", d, behind(id(20, 1000)), 19000)
	checkPlace(t, "long", d, end, 19000)
}
