package edit_test

import (
	"fmt"
	"math"
	"slices"
	"strings"
	"testing"

	"quire/api"
	"quire/doc"
)

// abc: a document of three units that are shown, deleted ones ahead of them, between them and behind them: (x) a (x) b c (x).
func abc(t *testing.T) *doc.Doc {
	t.Helper()
	return of(t, up(text(id(1, 1), none, none, "xaxbcx")), turning(turn(1, 1, 2, 1), turn(1, 3, 4, 3), turn(1, 6, 7, 1)))
}

// rightEdits: of each kind one that is right in abc.
func rightEdits() []api.Edit {
	return []api.Edit{inserting(1, "x"), embedding(1, integer(1)), deleting(1, 1), marking(1, 1, "k", integer(1)), setting("k", integer(1))}
}

func TestP15_1Kinds(t *testing.T) {
	d := abc(t)
	for _, e := range rightEdits() {
		if _, errno := ask(t, d, 1, e); errno != api.OK {
			t.Errorf("%v: %v", e, errno)
		}
		for _, kind := range []int{0, -1, api.EditSet + 1, api.EditInsert + 256, api.EditInsert + 1<<32, math.MaxInt, math.MinInt} {
			e.Kind = kind
			fails(t, fmt.Sprint("kind ", kind), d, 1, e, api.ErrEditKind)
		}
	}
	for _, kind := range []int{0, -1, api.EditSet + 1} {
		fails(t, "with all else wrong, too", d, 0, api.Edit{Kind: kind, At: -1, Text: "\xFF", V: api.Value{Kind: 6}, Path: []string{"no"}}, api.ErrEditKind)
	}
}

func TestP15_1Clients(t *testing.T) {
	d := abc(t)
	for _, e := range rightEdits() {
		for _, client := range []uint64{0, top + 1, top + 2, 1 << 63, math.MaxUint64} {
			fails(t, fmt.Sprint("client ", client), d, client, e, api.ErrEditKind)
		}
		for _, client := range []uint64{1, 2, 1 << 52, top - 1, top} {
			u, errno := ask(t, d, client, e)
			if errno != api.OK {
				t.Errorf("client %d: %v: %v", client, e, errno)
			}
			for _, o := range u.Ops {
				if want := map[uint64]uint64{1: 7}[client]; o.Id != id(client, max(want, 1)) {
					t.Errorf("client %d: %v: Id %v", client, e, o.Id)
				}
			}
		}
	}
}

// TestP15_1InsertedPlaces: from 0 to the number of the units that aren't deleted.
func TestP15_1InsertedPlaces(t *testing.T) {
	for _, x := range []struct {
		d *doc.Doc
		n int
	}{
		{doc.New(), 0}, {abc(t), 3}, {of(t, up(text(id(1, 1), none, none, "ab")), turning(turn(1, 1, 3, 1))), 0}, {of(t, up(text(id(1, 1), none, none, "a"), embed(id(1, 2), id(1, 1), none, null))), 2},
	} {
		for at := range x.n + 1 {
			does(t, x.d.Copy(), 2, inserting(at, "é"))
			does(t, x.d.Copy(), 2, embedding(at, null))
		}
		for _, at := range []int{-1, -2, x.n + 1, x.n + 2, x.n + 100, math.MaxInt, math.MinInt} {
			what := fmt.Sprintf("At %d of %d", at, x.n)
			fails(t, what, x.d, 2, inserting(at, "é"), api.ErrEditPlace)
			fails(t, what, x.d, 2, embedding(at, null), api.ErrEditPlace)
		}
	}
}

// TestP15_1Stretches: one unit at least, from At on, all of them there.
func TestP15_1Stretches(t *testing.T) {
	for _, x := range []struct {
		d *doc.Doc
		n int
	}{
		{doc.New(), 0}, {abc(t), 3}, {of(t, up(text(id(1, 1), none, none, "ab")), turning(turn(1, 1, 3, 1))), 0}, {of(t, up(text(id(1, 1), none, none, "a"), embed(id(1, 2), id(1, 1), none, null))), 2},
	} {
		for _, at := range []int{math.MinInt, -3, -1, 0, 1, 2, 3, 4, math.MaxInt - 1, math.MaxInt} {
			for _, n := range []int{math.MinInt, -1, 0, 1, 2, 3, 4, 5, math.MaxInt - 1, math.MaxInt} {
				right := at >= 0 && at < x.n && n >= 1 && n <= x.n-at
				for _, e := range []api.Edit{deleting(at, n), marking(at, n, "k", null)} {
					if right {
						does(t, x.d.Copy(), 2, e)
						continue
					}
					fails(t, fmt.Sprintf("At %d, N %d of %d", at, n, x.n), x.d, 2, e, api.ErrEditPlace)
				}
			}
		}
	}
}

func TestP15_1WrongTexts(t *testing.T) {
	d := abc(t)
	fails(t, "empty", d, 2, inserting(1, ""), api.ErrEditText)
	for _, s := range wrongTexts() {
		fails(t, fmt.Sprintf("%q", s), d, 2, inserting(1, s), api.ErrEditText)
		fails(t, fmt.Sprintf("long, then %q", s), d, 2, inserting(1, strings.Repeat("a", full-10)+s), api.ErrEditText)
	}
	for _, r := range []string{"a", "\x00", "é", "€", "\uFFFD", "\U0010FFFF"} {
		does(t, d.Copy(), 2, inserting(1, r))
		does(t, d.Copy(), 2, inserting(1, strings.Repeat(r, full)))
		fails(t, fmt.Sprintf("%q too often by one", r), d, 2, inserting(1, strings.Repeat(r, full+1)), api.ErrEditText)
		fails(t, fmt.Sprintf("%q far too often", r), d, 2, inserting(1, strings.Repeat(r, 3*full)), api.ErrEditText)
	}
}

// wrongValues: what value.Check refuses.
func wrongValues() []api.Value {
	return []api.Value{
		{Kind: -1}, {Kind: api.ValMap + 1}, {Kind: math.MaxInt}, {Kind: math.MinInt},
		{N: 1}, {F: 1}, floatless(math.Copysign(0, -1)), floatless(math.NaN()), {S: "x"}, {Kind: api.ValMap, N: 1}, {Kind: api.ValMap, S: "x"},
		boolean(2), boolean(-1), {Kind: api.ValBool, F: 1}, {Kind: api.ValInt, S: "x"}, {Kind: api.ValFloat, N: 1}, {Kind: api.ValText, N: 1},
		words(strings.Repeat("a", api.MaxString+1)), words("\xFF"), words("a\xED\xA0\x80"),
	}
}

// floatless: a null with a float.
func floatless(f float64) api.Value { return api.Value{F: f} }

func TestP15_1WrongValues(t *testing.T) {
	d := abc(t)
	for _, v := range wrongValues() {
		what := fmt.Sprintf("%.40v", v)
		fails(t, what, d, 2, embedding(1, v), api.ErrEditText)
		fails(t, what, d, 2, marking(1, 1, "k", v), api.ErrEditText)
		fails(t, what, d, 2, setting("k", v), api.ErrEditText)
	}
	fails(t, "a map as an embed", d, 2, embedding(1, aMap), api.ErrEditText)
	fails(t, "a map as a mark", d, 2, marking(1, 1, "k", aMap), api.ErrEditText)
	does(t, d, 2, setting("k", aMap))
}

func TestP15_1WrongKeys(t *testing.T) {
	d := abc(t)
	wrong := append(wrongTexts(), "", strings.Repeat("a", api.MaxKey+1), strings.Repeat("é", api.MaxKey/2)+"a", strings.Repeat("a", api.MaxKey-1)+"\xC3", strings.Repeat("a", 9999))
	for _, key := range wrong {
		what := fmt.Sprintf("%.80q", key)
		fails(t, what, d, 2, marking(1, 1, key, integer(1)), api.ErrEditKey)
		fails(t, what, d, 2, setting(key, integer(1)), api.ErrEditKey)
	}
	for _, key := range []string{"a", "\x00", "é", strings.Repeat("a", api.MaxKey), strings.Repeat("é", api.MaxKey/2), strings.Repeat("\U0010FFFF", api.MaxKey/4)} {
		does(t, d, 2, marking(1, 1, key, integer(1)))
		does(t, d, 2, setting(key, integer(1)))
	}
}

// mapped: a document with maps: m, in it i; v is no map, n is null again, h is hidden, w is won over, r is not any more, since what won is hidden; two are told at two, the first of which has i in it.
func mapped(t *testing.T) *doc.Doc {
	t.Helper()
	return of(t, up(
		set(id(1, 1), 1, none, "m", aMap), set(id(1, 2), 2, id(1, 1), "i", aMap), set(id(1, 3), 1, none, "v", integer(1)),
		set(id(1, 4), 1, none, "n", aMap), set(id(1, 5), 2, none, "n", null),
		set(id(1, 6), 1, none, "h", aMap), set(id(1, 7), 1, id(1, 6), "i", aMap),
		set(id(1, 8), 1, none, "w", aMap), set(id(1, 9), 2, none, "w", words("won")), set(id(1, 10), 1, id(1, 8), "i", aMap),
		set(id(1, 11), 1, none, "r", aMap), set(id(1, 12), 2, none, "r", null),
		set(id(1, 13), 1, none, "two", aMap), set(id(1, 14), 2, none, "two", aMap), set(id(1, 15), 1, id(1, 13), "i", aMap),
	), turning(turn(1, 6, 7, 1), turn(1, 12, 13, 1)))
}

func TestP15_1Paths(t *testing.T) {
	d := mapped(t)
	for _, path := range [][]string{
		{"v"}, {"n"}, {"h"}, {"h", "i"}, {"w"}, {"w", "i"}, {"two", "i"}, {"no"}, {"m", "no"}, {"m", "m"}, {"m", "i", "i"}, {"i"}, {"v", "i"},
		{""}, {"m", ""}, {"", "m"}, {"\xFF"}, {"mi"}, {"M"}, {strings.Repeat("m", api.MaxKey+1)}, slices.Repeat([]string{"m"}, 1000),
	} {
		fails(t, fmt.Sprintf("%.40q", path), d, 2, setting("k", integer(1), path...), api.ErrEditPath)
	}
	for _, x := range []struct {
		path []string
		want api.Id
	}{
		{nil, none}, {[]string{}, none}, {[]string{"m"}, id(1, 1)}, {[]string{"m", "i"}, id(1, 2)}, {[]string{"r"}, id(1, 11)}, {[]string{"two"}, id(1, 14)},
	} {
		for _, v := range []api.Value{integer(1), null, aMap} {
			tells(t, fmt.Sprint(x.path), d, 2, setting("k", v, x.path...), up(set(id(2, 1), 3, x.want, "k", v)))
			does(t, d.Copy(), 2, setting("k", v, x.path...))
		}
	}
	does(t, d, 2, setting("i", integer(1), "m"))
	fails(t, "a map that was won over", d, 2, setting("k", null, "m", "i"), api.ErrEditPath)
	d.Apply(turning(turn(2, 1, 2, 1), turn(1, 6, 7, 2), turn(1, 12, 13, 2)))
	for _, path := range [][]string{{"m", "i"}, {"h"}, {"h", "i"}} {
		does(t, d, 2, setting("k", integer(1), path...))
	}
	fails(t, "what won is shown again", d, 2, setting("k", null, "r"), api.ErrEditPath)
}

// TestP15_1PathOfAFreshMap: maps that edits made, within one another.
func TestP15_1PathOfAFreshMap(t *testing.T) {
	d := doc.New()
	var path []string
	for n := range 40 {
		u := does(t, d, 2, setting("m", aMap, path...))
		want := none
		if n > 0 {
			want = id(2, uint64(n))
		}
		if u.Ops[0].Parent != want || u.Ops[0].Stamp != uint64(n+1) {
			t.Errorf("%d maps: %v", n, u)
		}
		path = append(path, "m")
	}
	does(t, d, 3, setting("m", integer(1)))
	fails(t, "all are won over", d, 2, setting("m", aMap, path...), api.ErrEditPath)
}

// TestP15_1Stamps: one more than the document's, as long as that isn't above MaxId. (Its clocks no document can know up to there; ops.Check has that bound.)
func TestP15_1Stamps(t *testing.T) {
	for _, known := range []uint64{1, 7, 1 << 52, top - 2, top - 1, top} {
		for _, o := range []api.Op{set(id(1, 1), known, none, "k", null), mark(id(1, 1), known, none, none, "k", null)} {
			d := of(t, up(o), up(text(id(3, 1), none, none, "abc")))
			does(t, d, 2, inserting(1, "x")) // it has no stamp
			does(t, d, 2, embedding(1, null))
			does(t, d, 2, deleting(1, 1))
			if known == top {
				fails(t, "a mark of a stamp above MaxId", d, 2, marking(0, 1, "k", null), api.ErrEditClock)
				fails(t, "a set of a stamp above MaxId", d, 2, setting("k", null), api.ErrEditClock)
				continue
			}
			tells(t, "a mark", d, 2, marking(0, 1, "k", null), up(mark(id(2, 3), known+1, id(3, 1), id(3, 1), "k", null)))
			tells(t, "a set", d, 2, setting("k", null), up(set(id(2, 3), known+1, none, "k", null)))
			does(t, d.Copy(), 2, marking(0, 1, "k", integer(1)))
			does(t, d, 2, setting("k", integer(1)))
		}
	}
}

// TestP15_1StampsThatAreKnown: of void ones and deleted ones too, of those that wait not.
func TestP15_1StampsThatAreKnown(t *testing.T) {
	d := of(t, up(text(id(1, 1), none, none, "a"), mark(id(1, 2), 5, none, none, "k", null)))
	want := func(what string, stamp uint64) {
		t.Helper()
		tells(t, what, d, 2, marking(0, 1, "k", null), up(mark(id(2, 1), stamp, id(1, 1), id(1, 1), "k", null)))
		tells(t, what, d, 2, setting("k", null), up(set(id(2, 1), stamp, none, "k", null)))
	}
	want("a mark", 6)
	d.Apply(up(set(id(1, 3), 3, none, "k", null)))
	want("a lesser one behind it", 6)
	d.Apply(turning(turn(1, 2, 3, 1)))
	want("a deleted one", 6)
	d.Apply(up(set(id(1, 4), 8, id(1, 1), "k", null)))
	want("a void one", 9)
	d.Apply(up(set(id(1, 6), 20, none, "k", null)))
	want("one that waits", 9)
	d.Apply(up(text(id(1, 5), none, none, "b")))
	want("one that waited", 21)
}

// TestP15_1OrderOfErrors: of an edit's faults, in the chapter's order, any several at once: the first one is told.
func TestP15_1OrderOfErrors(t *testing.T) {
	kind := wrong{api.ErrEditKind, func(e *api.Edit) { e.Kind = 6 }}
	place := wrong{api.ErrEditPlace, func(e *api.Edit) { e.At = 4 }}
	number := wrong{api.ErrEditPlace, func(e *api.Edit) { e.N = 0 }}
	key := wrong{api.ErrEditKey, func(e *api.Edit) { e.Key = "" }}
	path := wrong{api.ErrEditPath, func(e *api.Edit) { e.Path = []string{"no"} }}
	noText := wrong{api.ErrEditText, func(e *api.Edit) { e.Text = "" }}
	v := wrong{api.ErrEditText, func(e *api.Edit) { e.V = api.Value{N: 1} }}
	stamp := wrong{api.ErrEditClock, nil} // the document's
	for kindOf, order := range map[int][]wrong{
		api.EditInsert: {kind, place, noText},
		api.EditEmbed:  {kind, place, v},
		api.EditDelete: {kind, place, number},
		api.EditMark:   {kind, place, number, key, v, stamp},
		api.EditSet:    {kind, key, path, v, stamp},
	} {
		for some := range 1 << len(order) {
			d := abc(t)
			e := rightEdits()[kindOf-api.EditInsert]
			want := api.OK
			for i, w := range order {
				if some>>i&1 == 0 {
					continue
				}
				if want == api.OK {
					want = w.e
				}
				if w.spoil == nil {
					d.Apply(up(set(id(5, 1), top, none, "z", null)))
					continue
				}
				w.spoil(&e)
			}
			if want == api.OK {
				does(t, d, 2, e)
				continue
			}
			fails(t, fmt.Sprintf("kind %d, faults %b", kindOf, some), d, 2, e, want)
			fails(t, fmt.Sprintf("kind %d, faults %b, no client", kindOf, some), d, 0, e, api.ErrEditKind)
		}
	}
}

// wrong: an error, and what makes an edit have it.
type wrong struct {
	e     api.Errno
	spoil func(*api.Edit)
}
