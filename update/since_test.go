package update_test

import (
	"math"
	"math/rand"
	"slices"
	"strings"
	"testing"

	"quire/api"
	"quire/doc"
	"quire/edit"
	"quire/ids"
	"quire/update"
	"quire/vector"
	"quire/view"
)

// checkSince: what Since must answer, and what Read makes of its bytes.
func checkSince(t *testing.T, what string, d *doc.Doc, v []api.Clock, turns []api.Turn, want api.Update) {
	t.Helper()
	got := since(t, d, v, turns)
	if !exact(got, want) {
		t.Errorf("%s: %v, not %v", what, short(got), short(want))
		return
	}
	if !exact(clean(t, got), got) {
		t.Errorf("%s: %v isn't clean", what, short(got))
	}
}

func TestP16_3SinceOperations(t *testing.T) {
	one := integer(1)
	m, s, e := mark(id(2, 1), 1, ahead(id(1, 1)), end, "k", one), set(id(2, 2), 1, none, "k", one), embed(id(3, 1), id(1, 6), none, one)
	void := text(id(4, 1), id(1, 2), id(1, 1), "void")
	ops := []api.Op{at(1, 1, "abcdef"), m, s, text(id(2, 3), id(1, 3), id(1, 4), "xyz"), e, void}
	d := of(t, up(ops...))
	all := []api.Clock{clock(1, 6), clock(2, 5), clock(3, 1), clock(4, 4)}
	beyond := slices.Clone(all)
	for i := range beyond {
		beyond[i].Clock += uint64(1 + i)
	}
	for _, x := range []struct {
		what string
		v    []api.Clock
		want []api.Op
	}{
		{"nothing known", nil, ops},
		{"an empty vector", []api.Clock{}, ops},
		{"all known", all, nil},
		{"more than all known", beyond, nil},
		{"all clocks of all clients", []api.Clock{clock(4, top), clock(3, top), clock(2, top), clock(1, top)}, nil},
		{"clocks above MaxId", []api.Clock{clock(1, top+1), clock(2, math.MaxUint64), clock(3, 1), clock(4, 1<<63)}, nil},
		{"a text known in part", []api.Clock{clock(1, 2)}, slices.Concat([]api.Op{at(1, 3, "cdef")}, ops[1:])},
		{"a text but for its last rune", []api.Clock{clock(1, 5)}, slices.Concat([]api.Op{at(1, 6, "f")}, ops[1:])},
		{"a text's first rune", []api.Clock{clock(1, 1)}, slices.Concat([]api.Op{at(1, 2, "bcdef")}, ops[1:])},
		{"the last text of several in part", []api.Clock{clock(2, 4), clock(3, 1)}, []api.Op{ops[0], text(id(2, 5), id(2, 4), id(1, 4), "z"), void}},
		{"one of several operations", []api.Clock{clock(2, 1)}, []api.Op{ops[0], s, ops[3], e, void}},
		{"two of several operations", []api.Clock{clock(2, 2)}, []api.Op{ops[0], ops[3], e, void}},
		{"all but what is void", all[:3], []api.Op{void}},
		{"of what is void a part", append(all[:3:3], clock(4, 3)), []api.Op{text(id(4, 4), id(4, 3), id(1, 1), "d")}},
		{"clients that the document doesn't know", []api.Clock{clock(5, 3), clock(9, top), clock(top, 1)}, ops},
		{"these among others", []api.Clock{clock(9, 1), clock(1, 2), clock(5, 9)}, slices.Concat([]api.Op{at(1, 3, "cdef")}, ops[1:])},
		{"out of order", []api.Clock{clock(3, 1), clock(1, 6), clock(4, 4)}, []api.Op{m, s, ops[3]}},
		{"a client twice", []api.Clock{clock(1, 2), clock(1, 5), clock(1, 3)}, slices.Concat([]api.Op{at(1, 6, "f")}, ops[1:])},
		{"clients and clocks that there aren't", []api.Clock{clock(0, 9), clock(1, 0), clock(top+1, 9), clock(math.MaxUint64, 9), clock(2, 0)}, ops},
	} {
		checkSince(t, x.what, d, x.v, nil, up(x.want...))
		checkSince(t, x.what+", of a copy", d.Copy(), x.v, nil, up(x.want...))
	}
	checkSince(t, "of nothing", doc.New(), nil, nil, api.Update{})
	checkSince(t, "of nothing, all known", doc.New(), all, []api.Turn{turn(1, 1, 9, 1)}, api.Update{})
}

// TestP16_3SinceOfWhatWaits: what waits isn't known, nor told; its turns are.
func TestP16_3SinceOfWhatWaits(t *testing.T) {
	d := of(t, both(up(at(1, 1, "ab"), at(1, 4, "de"), text(id(2, 1), id(3, 1), none, "w")), turn(2, 1, 2, 1), turn(1, 4, 5, 3), turn(9, 9, 10, 2)))
	turns := []api.Turn{turn(1, 4, 5, 3), turn(2, 1, 2, 1), turn(9, 9, 10, 2)}
	checkSince(t, "what waits", d, nil, nil, both(up(at(1, 1, "ab")), turns...))
	checkSince(t, "a part known", d, []api.Clock{clock(1, 1)}, nil, both(up(at(1, 2, "b")), turns...))
	checkSince(t, "what waits is known there", d, []api.Clock{clock(1, 5), clock(2, 1)}, nil, turning(turns...))
	apply(t, d, up(at(1, 3, "c")))
	checkSince(t, "it waits no more", d, []api.Clock{clock(1, 1)}, turns, up(at(1, 2, "bcde")))
	apply(t, d, up(at(3, 1, "x")))
	checkSince(t, "nothing waits any more", d, []api.Clock{clock(1, 5)}, turns, up(text(id(2, 1), id(3, 1), none, "w"), at(3, 1, "x")))
}

// TestP16_3SinceIsJoined: in whichever pieces a document was told, and wherever they are cut, the pieces are ops.Join's.
func TestP16_3SinceIsJoined(t *testing.T) {
	row := strings.Repeat("0123456789abcdef", full/16*2) + "ghi"
	d := doc.New()
	for from := 0; from < len(row); from += 777 {
		apply(t, d, up(at(1, uint64(1+from), row[from:min(from+777, len(row))])))
	}
	for _, known := range []int{0, 1, 2, 3, 4, 100, full - 1, full, full + 1, full + 3, full + 4, 2*full - 1, 2 * full, 2*full + 2} {
		var want []api.Op
		for from := known; from < len(row); from += full {
			want = append(want, at(1, uint64(1+from), row[from:min(from+full, len(row))]))
		}
		checkSince(t, "a long row", d, []api.Clock{clock(1, uint64(known))}, nil, up(want...))
	}
	checkSince(t, "all of a long row", d, []api.Clock{clock(1, uint64(len(row)))}, nil, api.Update{})
}

func TestP16_3SinceTurns(t *testing.T) {
	told := []api.Turn{turn(1, 1, 5, 1), turn(1, 5, 6, 2), turn(2, 3, 4, 300), turn(top, 1, top+1, top)}
	d := of(t, both(up(at(1, 1, "abc")), told...))
	for _, x := range []struct {
		what        string
		turns, want []api.Turn
	}{
		{"none known", nil, told},
		{"an empty list", []api.Turn{}, told},
		{"all known", told, nil},
		{"all known, out of order and in pieces", []api.Turn{told[3], told[2], turn(1, 3, 5, 1), told[1], turn(1, 1, 3, 1)}, nil},
		{"less", []api.Turn{turn(2, 1, 9, 299), turn(top, 1, top+1, top-1)}, told},
		{"as great", []api.Turn{turn(2, 1, 9, 300)}, []api.Turn{told[0], told[1], told[3]}},
		{"greater", []api.Turn{turn(1, 1, 6, 3), turn(2, 3, 4, 301)}, told[3:]},
		{"less here, as great there, greater elsewhere", []api.Turn{turn(1, 1, 2, 1), turn(1, 2, 3, 2), turn(1, 5, 6, 1), turn(top, 2, 3, top-1), turn(top, 9, top, top)}, []api.Turn{turn(1, 3, 5, 1), turn(1, 5, 6, 2), turn(2, 3, 4, 300), turn(top, 1, 9, top), turn(top, top, top+1, top)}},
		{"of ids that the document has no turns of", []api.Turn{turn(3, 1, 9, 1), turn(1, 6, 9, 1), turn(2, 1, 3, top)}, told},
		{"wrong ones", wrongTurns(), told},
		{"of one id several", []api.Turn{turn(2, 3, 4, 1), turn(2, 3, 4, 300), turn(2, 3, 4, 2)}, []api.Turn{told[0], told[1], told[3]}},
	} {
		checkSince(t, x.what, d, []api.Clock{clock(1, 3)}, x.turns, turning(x.want...))
		checkSince(t, x.what+", with operations", d, nil, x.turns, both(up(at(1, 1, "abc")), x.want...))
	}
	apply(t, d, turning(turn(1, 1, 2, 2)))
	checkSince(t, "turned again", d, []api.Clock{clock(1, 3)}, told, turning(turn(1, 1, 2, 2)))
}

// TestP16_3Many: a document that knows more than an update holds tells all of it.
func TestP16_3Many(t *testing.T) {
	d, want := doc.New(), api.Update{}
	for client := range uint64(3) {
		u := crowd(api.MaxOps)
		for i := range u.Ops {
			u.Ops[i].Id = id(1+client, uint64(1+i))
			u.Turns[i].Client = 1 + client
			u.Turns[i].From = uint64(1 + 2*i)
			u.Turns[i].To = u.Turns[i].From + 1
		}
		apply(t, d, u)
		want.Ops, want.Turns = append(want.Ops, u.Ops...), append(want.Turns, u.Turns...)
	}
	checkSince(t, "many", d, nil, nil, want)
	checkUnwritten(t, "many", update.Since(d, nil, nil), api.ErrUpdateForm)
	v := []api.Clock{clock(1, api.MaxOps), clock(2, api.MaxOps), clock(3, 7)}
	checkSince(t, "few of many", d, v, want.Turns[:3*api.MaxOps-1], api.Update{Ops: want.Ops[2*api.MaxOps+7:], Turns: want.Turns[3*api.MaxOps-1:]})
}

// story: documents of clients who edit at once, and hear of one another late, in pieces, and not of all.
type story struct {
	next func(int) int
	docs []*doc.Doc
	told []api.Update
}

func newStory(next func(int) int) *story {
	s := &story{next: next}
	for range 3 {
		s.docs = append(s.docs, doc.New())
	}
	return s
}

func (s *story) run(t *testing.T, events int) {
	t.Helper()
	for range events {
		i := s.next(len(s.docs))
		if len(s.told) > 0 && s.next(3) == 1 {
			apply(t, s.docs[i], s.told[s.next(len(s.told))])
			continue
		}
		if u, e := edit.Make(s.docs[i], uint64(1+i), s.edit(s.docs[i])); e == api.OK {
			apply(t, s.docs[i], u)
			s.told = append(s.told, u)
		}
	}
}

func (s *story) edit(d *doc.Doc) api.Edit {
	n := len(d.Units())
	at := s.next(n + 1)
	some := 1 + s.next(max(n-at, 1))
	v := values()[s.next(len(values())-1)]
	switch s.next(8) {
	case 0:
		return api.Edit{Kind: api.EditEmbed, At: at, V: v}
	case 1, 2:
		return api.Edit{Kind: api.EditDelete, At: at, N: some}
	case 3:
		return api.Edit{Kind: api.EditMark, At: at, N: some, Key: string(rune('k' + s.next(2))), V: v}
	case 4:
		return api.Edit{Kind: api.EditSet, Key: string(rune('s' + s.next(2))), V: v}
	case 5:
		return api.Edit{Kind: api.EditSet, Key: "m", V: aMap}
	}
	return api.Edit{Kind: api.EditInsert, At: at, Text: oneOf(s.next, "a", "é\U0001F600", "bcdefgh")}
}

// vectors: some that a document may be asked with, other documents' among them.
func (s *story) vectors() [][]api.Clock {
	l := [][]api.Clock{nil}
	for _, d := range s.docs {
		l = append(l, d.Vector())
	}
	var any []api.Clock
	for range s.next(5) {
		any = append(any, clock(uint64(s.next(5)), uint64(s.next(12))))
	}
	return append(l, any)
}

func (s *story) turns() [][]api.Turn {
	l := [][]api.Turn{nil}
	for _, d := range s.docs {
		l = append(l, d.Turns())
	}
	var any []api.Turn
	for range s.next(5) {
		from := uint64(s.next(8))
		any = append(any, turn(uint64(s.next(5)), from, from+uint64(s.next(4)), uint64(s.next(4))))
	}
	return append(l, any)
}

// tryStory: P16.3 by the model, and P16.4, of a drawn story.
func tryStory(t *testing.T, next func(int) int) {
	t.Helper()
	s := newStory(next)
	s.run(t, 20)
	for _, d := range s.docs {
		turns := s.turns()
		for i, v := range s.vectors() {
			want := modelSince(d, v, turns[i])
			if got := since(t, d, v, turns[i]); !exact(got, want) {
				t.Fatalf("P16.3: of %v, %v since %v, %v: %v, not %v", d.Ops(), d.Turns(), v, turns[i], got, want)
			}
		}
	}
	for i, d := range s.docs {
		checkCatchUp(t, d, s.docs[(i+1)%len(s.docs)])
	}
	if len(s.told) > 0 {
		checkMerged(t, next, s.told[:1+next(len(s.told))])
	}
}

// checkCatchUp: what one who is told what the other knows beyond knows then.
func checkCatchUp(t *testing.T, d, other *doc.Doc) {
	t.Helper()
	v, turns := vector.Join(d.Vector(), other.Vector()), ids.JoinTurns(d.Turns(), other.Turns())
	news := update.Since(other, d.Vector(), d.Turns())
	late, bytes := d.Copy(), d.Copy()
	apply(t, late, news)
	b, _ := update.Write(news)
	u, e := update.Read(b)
	if e != api.OK {
		t.Fatalf("P16.2: Read of %x: %v", b, e)
	}
	apply(t, bytes, u)
	for _, told := range []*doc.Doc{late, bytes} {
		if !vector.Within(v, told.Vector()) || !slices.Equal(told.Turns(), turns) || told.Waiting() > d.Waiting() {
			t.Fatalf("P16.4: told %v, it knows %v, %v; not %v, %v; %d wait", news, told.Vector(), told.Turns(), v, turns, told.Waiting())
		}
		if d.Waiting() == 0 && !slices.Equal(told.Vector(), v) {
			t.Fatalf("P16.4: told %v, it knows %v, not %v", news, told.Vector(), v)
		}
		if lacking := update.Since(other, told.Vector(), told.Turns()); !update.Empty(lacking) {
			t.Fatalf("P16.4: told %v, it lacks %v", news, lacking)
		}
	}
	whole := d.Copy()
	apply(t, whole, api.Update{Ops: other.Ops(), Turns: other.Turns()})
	checkAlike(t, late, whole)
	checkAlike(t, bytes, whole)
}

// checkMerged: documents that are told the updates in some orders, and one that is told Merge of them in some order.
func checkMerged(t *testing.T, next func(int) int, l []api.Update) {
	t.Helper()
	l = slices.Clone(l)
	merged := of(t, update.Merge(l))
	for range 3 {
		d := doc.New()
		for i := range l {
			k := i + next(len(l)-i)
			l[i], l[k] = l[k], l[i]
			apply(t, d, l[i])
		}
		checkAlike(t, merged, d)
		checkAlike(t, of(t, update.Merge(l)), d)
		half := next(len(l) + 1)
		checkAlike(t, of(t, update.Merge(l[:half]), update.Merge(l[half:])), d)
		checkAlike(t, of(t, update.Merge([]api.Update{update.Merge(l[half:]), {}, update.Merge(l[:half])})), d)
	}
}

// checkAlike: two documents must tell the same.
func checkAlike(t *testing.T, a, b *doc.Doc) {
	t.Helper()
	if !slices.Equal(a.Vector(), b.Vector()) || !slices.Equal(a.Turns(), b.Turns()) || a.Waiting() != b.Waiting() || a.Stamp() != b.Stamp() || !slices.Equal(a.Units(), b.Units()) {
		t.Fatalf("P16.4: %v, %v, %d, %d, %v; not %v, %v, %d, %d, %v", a.Vector(), a.Turns(), a.Waiting(), a.Stamp(), a.Units(), b.Vector(), b.Turns(), b.Waiting(), b.Stamp(), b.Units())
	}
	if !slices.EqualFunc(a.Ops(), b.Ops(), exactOp) || !slices.EqualFunc(a.Pending(), b.Pending(), exactOp) || !slices.EqualFunc(a.Marks(), b.Marks(), exactOp) {
		t.Fatalf("P16.4: %v, %v, %v; not %v, %v, %v", a.Ops(), a.Pending(), a.Marks(), b.Ops(), b.Pending(), b.Marks())
	}
	if x, y := view.Text(a.View()), view.Text(b.View()); x != y {
		t.Fatalf("P16.4: %q, not %q", x, y)
	}
}

func TestP16_3And4Stories(t *testing.T) {
	for seed := range int64(600) {
		tryStory(t, drawn(seed))
	}
}

func FuzzP16_3And4Stories(f *testing.F) {
	f.Add([]byte{})
	for seed := range int64(8) {
		b := make([]byte, 150)
		rand.New(rand.NewSource(seed)).Read(b)
		f.Add(b)
	}
	f.Fuzz(func(t *testing.T, b []byte) { tryStory(t, given(b)) })
}

// TestP16_4MergeInEachOrder: few updates, that overlap and wait for one another, in each order, one by one and as one.
func TestP16_4MergeInEachOrder(t *testing.T) {
	one := integer(1)
	for _, l := range [][]api.Update{
		{up(at(1, 1, "abc")), up(at(1, 2, "bcde")), both(up(at(1, 5, "e")), turn(1, 2, 4, 1))},
		{both(up(at(1, 1, "abc")), turn(1, 1, 3, 1)), turning(turn(1, 2, 4, 2)), up(at(1, 3, "cd"), text(id(2, 1), id(1, 1), id(1, 2), "x")), up(embed(id(2, 2), id(1, 4), none, one))},
		{up(mark(id(2, 1), 1, ahead(id(1, 1)), behind(id(1, 3)), "k", one)), up(at(1, 1, "ab")), up(at(1, 2, "bc"), mark(id(2, 2), 2, ahead(id(1, 2)), end, "k", null)), both(up(at(1, 4, "d")), turn(1, 1, 2, 1))},
		{up(set(id(1, 1), 1, none, "m", aMap)), both(up(set(id(2, 1), 2, id(1, 1), "k", one)), turn(1, 1, 2, 2)), up(set(id(1, 1), 1, none, "m", aMap), set(id(1, 2), 3, none, "m", one)), turning(turn(1, 1, 3, 1))},
		{up(text(id(2, 1), id(1, 2), id(1, 1), "void")), up(at(1, 1, "ab")), up(text(id(2, 3), id(2, 2), id(1, 1), "id"), at(2, 5, "late")), {}},
	} {
		merged := of(t, update.Merge(l))
		orders(l, func(l []api.Update) {
			checkAlike(t, of(t, l...), merged)
			checkAlike(t, of(t, update.Merge(l)), merged)
		})
	}
}

// orders goes through all orders of l.
func orders(l []api.Update, f func([]api.Update)) {
	var from func(int)
	from = func(i int) {
		if i == len(l) {
			f(l)
			return
		}
		for k := i; k < len(l); k++ {
			l[i], l[k] = l[k], l[i]
			from(i + 1)
			l[i], l[k] = l[k], l[i]
		}
	}
	from(0)
}
