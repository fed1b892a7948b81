package edit_test

import (
	"math"
	"math/rand"
	"slices"
	"testing"
	"unicode/utf8"

	"quire/api"
	"quire/doc"
	"quire/edit"
	"quire/ids"
	"quire/ops"
	"quire/value"
)

// fault: an error, and whether it applies.
type fault struct {
	applies bool
	e       api.Errno
}

// firstOf: the chapter's order is that of the list.
func firstOf(l ...fault) api.Errno {
	for _, f := range l {
		if f.applies {
			return f.e
		}
	}
	return api.OK
}

func modelNext(d *doc.Doc, client uint64) uint64 {
	next := uint64(1)
	for {
		if _, known := d.Get(id(client, next)); !known {
			return next
		}
		next++
	}
}

func isKey(s string) bool { return s != "" && len(s) <= api.MaxKey && utf8.ValidString(s) }

func isText(s string) bool {
	return s != "" && utf8.ValidString(s) && utf8.RuneCountInString(s) <= full
}

// modelErrno: P15.1's errors, in its order. (A document knows too little for clocks above MaxId, and a unit that is shown has an even turn.)
func modelErrno(d *doc.Doc, client uint64, e api.Edit) api.Errno {
	n := len(d.Units())
	kind := fault{client < 1 || client > top, api.ErrEditKind}
	place := fault{e.At < 0 || e.At > n, api.ErrEditPlace}
	stretch := fault{place.applies || e.N < 1 || e.N > n-e.At, api.ErrEditPlace}
	key := fault{!isKey(e.Key), api.ErrEditKey}
	text := fault{!isText(e.Text), api.ErrEditText}
	v := fault{value.Check(e.V) != api.OK, api.ErrEditText}
	shown := fault{v.applies || e.V.Kind == api.ValMap, api.ErrEditText}
	stamp := fault{d.Stamp() == top, api.ErrEditClock}
	switch e.Kind {
	case api.EditInsert:
		return firstOf(kind, place, text)
	case api.EditEmbed:
		return firstOf(kind, place, shown)
	case api.EditDelete:
		return firstOf(kind, stretch)
	case api.EditMark:
		return firstOf(kind, stretch, key, shown, stamp)
	case api.EditSet:
		_, there := d.Maps().Find(e.Path)
		return firstOf(kind, key, fault{!there, api.ErrEditPath}, v, stamp)
	}
	return api.ErrEditKind
}

// modelMake: what P15.1 says, unit by unit.
func modelMake(d *doc.Doc, client uint64, e api.Edit) (api.Update, api.Errno) {
	if errno := modelErrno(d, client, e); errno != api.OK {
		return api.Update{}, errno
	}
	x, units := id(client, modelNext(d, client)), d.Units()
	switch e.Kind {
	case api.EditInsert:
		left, right := modelOrigins(d, units, e.At)
		return up(text(x, left, right, e.Text)), api.OK
	case api.EditEmbed:
		left, right := modelOrigins(d, units, e.At)
		return up(embed(x, left, right, oneNaN(e.V))), api.OK
	case api.EditMark:
		return up(mark(x, d.Stamp()+1, units[e.At], units[e.At+e.N-1], e.Key, oneNaN(e.V))), api.OK
	case api.EditSet:
		parent, _ := d.Maps().Find(e.Path)
		return up(set(x, d.Stamp()+1, parent, e.Key, oneNaN(e.V))), api.OK
	}
	var turns []api.Turn
	for _, x := range units[e.At:][:e.N] {
		turns = append(turns, turn(x.Client, x.Clock, x.Clock+1, ids.TurnOf(d.Turns(), x)+1))
	}
	return turning(ids.Turns(turns)...), api.OK
}

func modelOrigins(d *doc.Doc, units []api.Id, at int) (left, right api.Id) {
	if at > 0 {
		left = units[at-1]
	}
	whole := []api.Id{none}
	for _, u := range d.Seq().All() {
		whole = append(whole, u.Id)
	}
	whole = append(whole, none)
	return left, whole[slices.Index(whole, left)+1]
}

// story: documents of clients who edit at once, and hear of one another late, in pieces, and not of all.
type story struct {
	next func(int) int
	docs []*doc.Doc
	told []api.Update
}

// writers: the clients, each in a document of its own.
func writers() []uint64 { return []uint64{1, 2, top} }

func newStory(next func(int) int) *story {
	s := &story{next: next}
	for range writers() {
		s.docs = append(s.docs, doc.New())
	}
	return s
}

func oneOf[T any](s *story, l ...T) T { return l[s.next(len(l))] }

// tell: an update that is made in a document.
func (s *story) tell(d *doc.Doc, u api.Update) {
	d.Apply(u)
	s.told = append(s.told, u)
}

// hear: any of the updates, or a piece of it, comes to a document.
func (s *story) hear(d *doc.Doc) {
	if len(s.told) == 0 {
		return
	}
	u := oneOf(s, s.told...)
	for _, o := range u.Ops {
		n := ops.Len(o)
		from := s.next(n) * s.next(2)
		piece, _ := ops.Cut(o, from, from+1+s.next(n-from))
		u = oneOf(s, u, up(piece))
	}
	d.Apply(u)
}

// turn: some of what a document knows is deleted, or shown again.
func (s *story) turn(d *doc.Doc) {
	known := d.Ops()
	if len(known) == 0 {
		return
	}
	r := ops.Range(oneOf(s, known...))
	n := ids.TurnOf(d.Turns(), id(r.Client, r.From)) + 1 + uint64(s.next(2))
	if s.next(30) == 0 {
		n = oneOf[uint64](s, top, top-1, top-2)
	}
	s.tell(d, turning(turn(r.Client, r.From, r.From+1+uint64(s.next(int(r.To-r.From))), n)))
}

// strange: an operation that no edit tells: void, or over any units, or of any stamp.
func (s *story) strange(d *doc.Doc, client uint64) {
	x := id(client, edit.Next(d, client))
	anyId := func() api.Id {
		if known := d.Ops(); len(known) > 0 && s.next(4) > 0 {
			return oneOf(s, known...).Id
		}
		return none
	}
	stamp := uint64(1 + s.next(20))
	if s.next(30) == 0 {
		stamp = oneOf[uint64](s, top-2, top-1, top)
	}
	o := oneOf(s,
		text(x, anyId(), anyId(), "st"), embed(x, anyId(), anyId(), null),
		mark(x, stamp, anyId(), anyId(), s.key(), integer(7)), set(x, stamp, anyId(), s.key(), oneOf(s, aMap, integer(8))),
	)
	if ops.Check(o) == api.OK {
		s.tell(d, up(o))
	}
}

func (s *story) key() string { return string(rune('k' + s.next(3))) }

func (s *story) value() api.Value {
	return oneOf(s, null, boolean(1), integer(int64(s.next(3))), float(0), float(math.Copysign(0, -1)), floatOf(0xFFF0000000000001), words("x"), aMap)
}

// edit: a right one, most often.
func (s *story) edit(d *doc.Doc) api.Edit {
	n := len(d.Units())
	e := api.Edit{Kind: 1 + s.next(5), At: s.next(n + 1), N: 1, Text: string([]rune("aé€\U0001F600z")[:1+s.next(5)]), V: s.value(), Key: s.key()}
	if rest := n - e.At; rest > 0 {
		e.N = 1 + s.next(rest)
	}
	for range s.next(3) * s.next(2) {
		e.Path = append(e.Path, s.key())
	}
	for range max(0, s.next(8)-5) {
		s.spoil(&e, n)
	}
	return e
}

func (s *story) spoil(e *api.Edit, n int) {
	switch s.next(6) {
	case 0:
		e.Kind = oneOf(s, -1, 0, 6, math.MaxInt, math.MinInt)
	case 1:
		e.At = oneOf(s, -1, n+1, n, math.MaxInt, math.MinInt)
	case 2:
		e.N = oneOf(s, -1, 0, n-e.At+1, n, math.MaxInt, math.MinInt)
	case 3:
		e.Text = oneOf(s, append(wrongTexts(), "")...)
	case 4:
		e.V = oneOf(s, api.Value{N: 1}, boolean(2), words("\xFF"), api.Value{Kind: 6}, api.Value{Kind: api.ValMap, S: "x"})
	default:
		e.Key = oneOf(s, append(wrongTexts(), "")...)
	}
}

// step: one of the documents hears, turns, or is edited.
func (s *story) step(t *testing.T) {
	t.Helper()
	i := s.next(len(s.docs))
	d, client := s.docs[i], writers()[i]
	switch s.next(10) {
	case 0, 1, 2:
		s.hear(d)
		return
	case 3:
		s.turn(d)
		return
	case 4:
		s.strange(d, uint64(11+i))
		return
	}
	e := s.edit(d)
	if s.next(20) == 0 {
		client = oneOf[uint64](s, 0, top+1, math.MaxUint64)
	}
	want, wrong := modelMake(d, client, e)
	u, errno := ask(t, d, client, e)
	if errno != wrong || !exactUpdate(u, want) {
		t.Fatalf("P15.1: %d, %v: %v, %v, not %v, %v", client, e, short(u), errno, short(want), wrong)
	}
	if errno == api.OK {
		checkDone(t, d, e, u)
		s.told = append(s.told, u)
	}
	for _, x := range []uint64{0, 1, 2, 3, 11, 12, 13, top, top + 1} {
		if got, want := edit.Next(d, x), modelNext(d, x); got != want {
			t.Fatalf("P15.1: Next %d: %d, not %d", x, got, want)
		}
	}
}

func TestP15_1And2ByTheModel(t *testing.T) {
	for seed := range int64(400) {
		s := newStory(rand.New(rand.NewSource(seed)).Intn)
		for range 60 {
			s.step(t)
		}
	}
}

func FuzzP15_1And2ByTheModel(f *testing.F) {
	f.Add([]byte{})
	f.Add([]byte{0, 5, 0, 0, 4, 0, 0, 1, 1, 9, 0, 7, 0, 3, 1, 0, 2, 5, 5, 5, 5, 1, 0, 1, 0, 9, 3, 1, 1, 1, 2, 0, 0, 1})
	f.Add([]byte{1, 9, 4, 0, 0, 7, 0, 1, 1, 9, 1, 9, 4, 0, 0, 1, 1, 0, 1, 9, 1, 4, 0, 3, 3, 2, 1, 0, 0, 1, 2, 3, 4, 5, 6, 7, 8, 9, 10, 11, 12, 13, 14, 15, 16})
	f.Fuzz(func(t *testing.T, b []byte) {
		s := newStory(func(n int) int {
			if len(b) == 0 {
				return 0
			}
			x := int(b[0]) % n
			b = b[1:]
			return x
		})
		for range min(len(b)/8, 60) {
			s.step(t)
		}
	})
}
