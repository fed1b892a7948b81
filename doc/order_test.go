package doc_test

import (
	"fmt"
	"math/rand"
	"slices"
	"testing"

	"quire/api"
	"quire/doc"
	"quire/ops"
)

// permute gives l in each order.
func permute(l []api.Update, do func(l []api.Update)) {
	l = slices.Clone(l)
	var from func(i int)
	from = func(i int) {
		if i == len(l) {
			do(l)
			return
		}
		for k := i; k < len(l); k++ {
			l[i], l[k] = l[k], l[i]
			from(i + 1)
			l[i], l[k] = l[k], l[i]
		}
	}
	from(0)
}

func TestP13_5EachOrderOfFew(t *testing.T) {
	one := integer(1)
	for _, x := range []struct {
		what string
		l    []api.Update
		want string
	}{
		{"writers at one place", []api.Update{up(at(1, 1, "ab")), up(text(id(2, 1), id(1, 1), id(1, 2), "xy")), up(text(id(3, 1), id(1, 1), id(1, 2), "z")), up(text(id(2, 3), id(2, 1), id(2, 2), "-")), turning(turn(1, 1, 2, 1)), turning(turn(2, 2, 3, 1))}, "x-zb"},
		{"deleted and shown again", []api.Update{up(at(1, 1, "abc")), turning(turn(1, 1, 3, 1)), turning(turn(1, 2, 4, 2)), turning(turn(1, 3, 4, 3)), up(at(1, 4, "d")), up(mark(id(2, 1), 1, ahead(id(1, 2)), end, "k", one))}, "bd[k=1]"},
		{"marks and embeds", []api.Update{up(at(1, 1, "ab")), up(embed(id(1, 3), id(1, 1), id(1, 2), one)), up(mark(id(2, 1), 2, ahead(id(1, 1)), behind(id(1, 3)), "k", one)), up(mark(id(3, 1), 2, ahead(id(1, 3)), end, "k", null)), turning(turn(3, 1, 2, 1)), turning(turn(3, 1, 2, 2))}, "a[k=1]|<1>|b"},
		{"maps", []api.Update{up(set(id(1, 1), 1, none, "m", aMap)), up(set(id(2, 1), 2, id(1, 1), "k", one)), up(set(id(3, 1), 2, id(1, 1), "k", integer(3))), up(set(id(2, 2), 9, none, "m", null)), turning(turn(2, 2, 3, 1)), turning(turn(3, 1, 2, 1))}, "{m=map{k=1}}"},
		{"void ones", []api.Update{up(at(1, 1, "ab")), up(text(id(2, 1), id(1, 2), id(1, 1), "v")), up(text(id(3, 1), id(2, 1), none, "w")), up(mark(id(3, 2), 1, begin, behind(id(3, 1)), "k", one)), up(text(id(2, 2), id(1, 1), id(1, 2), "x")), up(set(id(4, 1), 1, id(3, 2), "k", one))}, "axb"},
		{"in pieces", []api.Update{up(at(1, 1, "abcd")), up(at(1, 1, "ab")), up(at(1, 2, "bc")), up(at(1, 4, "d")), up(at(1, 3, "cdef")), up(text(id(2, 1), id(1, 2), id(1, 3), "x"))}, "abxcdef"},
		{"pieces alone", []api.Update{up(at(1, 1, "a")), up(at(1, 2, "b")), up(at(1, 3, "c")), up(at(1, 4, "d")), up(at(1, 5, "e")), up(text(id(2, 1), id(1, 2), id(1, 3), "x"))}, "abxcde"},
		{"an operation and its turns at once", []api.Update{{Ops: []api.Op{at(1, 1, "ab")}, Turns: []api.Turn{turn(2, 1, 2, 1)}}, {Ops: []api.Op{text(id(2, 1), id(1, 2), none, "xy")}, Turns: []api.Turn{turn(1, 1, 2, 1)}}, turning(turn(1, 1, 2, 2), turn(2, 2, 3, 1)), {Ops: []api.Op{at(2, 3, "z")}, Turns: []api.Turn{turn(2, 2, 3, 2)}}}, "abyz"},
	} {
		want := allOf(of(t, x.l...))
		permute(x.l, func(l []api.Update) {
			d := of(t, l...)
			if got := shown(d.View()); got != x.want || d.Waiting() != 0 {
				t.Fatalf("%s: %v: %s, %d wait", x.what, l, got, d.Waiting())
			}
			sameAll(t, x.what, allOf(d), want)
		})
	}
}

// scattered: updates that tell all of a story's operations, and these turns, in pieces, in a drawn order, some of them several times, some together, some within others' way.
func scattered(s *story, turns []api.Turn, r *rand.Rand) []api.Update {
	var out []api.Update
	for _, o := range s.ops {
		at := r.Intn(ops.Len(o))
		if head, ok := ops.Cut(o, 0, at); ok {
			out = append(out, up(head))
		}
		tail, _ := ops.Cut(o, at, ops.Len(o))
		out = append(out, up(tail))
		for range r.Intn(2) {
			out = append(out, up(s.piece(o)))
		}
	}
	for _, x := range turns {
		for range 1 + r.Intn(2) {
			out = append(out, turning(x))
		}
	}
	r.Shuffle(len(out), func(i, k int) { out[i], out[k] = out[k], out[i] })
	var joined []api.Update
	for len(out) > 0 {
		n := min(1+r.Intn(4), len(out))
		var u api.Update
		for _, x := range out[:n] {
			u.Ops, u.Turns = append(u.Ops, x.Ops...), append(u.Turns, x.Turns...)
		}
		joined, out = append(joined, u), out[n:]
	}
	return joined
}

// TestP13_5AnyOrder: drawn stories that come in drawn ways, with looks at the document and copies of it in between.
func TestP13_5AnyOrder(t *testing.T) {
	for seed := range int64(250) {
		r := rand.New(rand.NewSource(seed))
		s := newStory(r.Intn)
		for range 5 + r.Intn(40) {
			s.tell()
		}
		var turns []api.Turn
		for range r.Intn(15) {
			turns = append(turns, s.turn())
		}
		var want all
		for turn := range 4 {
			d := doc.New()
			for _, u := range scattered(s, turns, r) {
				if _, e := tell(t, d, u); e != api.OK {
					t.Fatalf("seed %d: %v", seed, e)
				}
				switch r.Intn(12) {
				case 0:
					d = d.Copy()
				case 1:
					allOf(d)
				}
			}
			if turn == 0 {
				want = allOf(d)
			}
			sameAll(t, fmt.Sprint("seed ", seed), allOf(d), want)
		}
	}
}

// TestP13_5Closed: what Ops and Turns tell makes a document that knows the same; with Pending, and in either order, the same waits, too.
func TestP13_5Closed(t *testing.T) {
	for seed := range int64(200) {
		r := rand.New(rand.NewSource(seed))
		s := newStory(r.Intn)
		for range 5 + r.Intn(30) {
			s.tell()
		}
		d := doc.New()
		for range r.Intn(25) {
			tell(t, d, s.update())
		}
		want := allOf(d)
		a := of(t, up(d.Pending()...), turning(d.Turns()...), up(d.Ops()...))
		sameAll(t, "Pending ahead", allOf(a), want)
		b := of(t, api.Update{Ops: d.Ops(), Turns: d.Turns()})
		want.pending, want.waiting = nil, 0
		sameAll(t, "without Pending", allOf(b), want)
		tell(t, b, up(d.Pending()...))
		sameAll(t, "Pending behind", allOf(b), allOf(a))
	}
}

// TestP13_5Writers: writers that write where they see something, and come to know of one another later.
func TestP13_5Writers(t *testing.T) {
	for seed := range int64(60) {
		r := rand.New(rand.NewSource(seed))
		l := []*doc.Doc{doc.New(), doc.New(), doc.New()}
		var told []api.Update
		for range 60 {
			i := r.Intn(len(l))
			if len(told) > 0 && r.Intn(3) == 0 {
				tell(t, l[i], told[r.Intn(len(told))])
				continue
			}
			u := write(l[i], uint64(1+i), r)
			if ok, e := tell(t, l[i], u); e != api.OK || !ok {
				t.Fatalf("seed %d: %v: %t, %v", seed, u, ok, e)
			}
			told = append(told, u)
		}
		for _, d := range l {
			for _, i := range r.Perm(len(told)) {
				tell(t, d, told[i])
			}
			checkWaiting(t, "all told", d, 0)
			sameAll(t, fmt.Sprint("seed ", seed), allOf(d), allOf(l[0]))
		}
	}
}

// write: something that a writer who sees d might do there.
func write(d *doc.Doc, client uint64, r *rand.Rand) api.Update {
	x := id(client, 1)
	for _, c := range d.Vector() {
		if c.Client == client {
			x.Clock += c.Clock
		}
	}
	units := d.Units()
	at := r.Intn(len(units) + 1)
	switch n := r.Intn(8); {
	case n == 0:
		return up(set(x, d.Stamp()+1, none, string(rune('s'+r.Intn(2))), integer(int64(r.Intn(9)))))
	case n <= 2 && at < len(units):
		u := units[at]
		for _, old := range d.Turns() {
			if old.Client == u.Client && old.From <= u.Clock && u.Clock < old.To {
				return turning(turn(u.Client, u.Clock, u.Clock+1, old.N+1))
			}
		}
		return turning(turn(u.Client, u.Clock, u.Clock+1, 1))
	case n == 3 && at < len(units):
		return up(mark(x, d.Stamp()+1, ahead(units[at]), behind(units[at+r.Intn(len(units)-at)]), string(rune('k'+r.Intn(2))), integer(int64(r.Intn(2)))))
	}
	s := d.Seq()
	var left, right api.Id
	if at > 0 {
		left = units[at-1]
	}
	if u, ok := s.At(s.Find(left) + 1); ok {
		right = u.Id
	}
	return up(text(x, left, right, "abcdefgh"[:1+r.Intn(5)]))
}

// TestP13_3AnswersNewMemory: what is laid in an answer says nothing, and lists of one answer, or of two, share no memory.
func TestP13_3AnswersNewMemory(t *testing.T) {
	d := some(t)
	tell(t, d, up(embed(id(1, 10), id(1, 5), id(1, 6), null), mark(id(1, 11), 7, begin, end, "all", integer(1))))
	want := allOf(d)
	got := allOf(d)
	spoil(got.vector)
	spoil(got.turns)
	spoil(got.dels)
	spoil(got.ops)
	spoil(got.pending)
	spoil(got.marks)
	spoil(got.units)
	spoilEntries(got.maps)
	for i, r := range got.view.Runs {
		if len(r.Marks) == 0 {
			t.Fatalf("the test's own: a run without marks: %v", r)
		}
		others := slices.Clone(got.view.Runs)
		for k := range others {
			others[k].Marks = slices.Clone(others[k].Marks)
		}
		spoil(r.Marks)
		got.view.Runs[i].Marks = others[i].Marks
		if !slices.EqualFunc(got.view.Runs, others, exactRun) {
			t.Errorf("run %d shares its marks", i)
		}
		spoil(got.view.Runs[i].Marks)
	}
	spoilEntries(got.view.Map)
	spoil(got.view.Runs)
	sameAll(t, "behind a change of the answers", allOf(d), want)
	tell(t, d, api.Update{Ops: []api.Op{at(3, 1, "1234"), at(9, 1, "123456789")}, Turns: []api.Turn{turn(1, 1, 9, 8)}})
	fresh := some(t)
	tell(t, fresh, up(embed(id(1, 10), id(1, 5), id(1, 6), null), mark(id(1, 11), 7, begin, end, "all", integer(1))))
	tell(t, fresh, api.Update{Ops: []api.Op{at(3, 1, "1234"), at(9, 1, "123456789")}, Turns: []api.Turn{turn(1, 1, 9, 8)}})
	sameAll(t, "told more behind a change of the answers", allOf(d), allOf(fresh))
}

// spoil lays zeros in a list and in the spare room behind it.
func spoil[T any](l []T) { clear(l[:cap(l)]) }

func spoilEntries(l []api.Entry) {
	for _, e := range l {
		spoilEntries(e.Kids)
	}
	spoil(l)
}
