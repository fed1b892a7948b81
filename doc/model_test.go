package doc_test

import (
	"math"
	"math/rand"
	"slices"
	"testing"

	"quire/api"
	"quire/doc"
	"quire/ids"
	"quire/maps"
	"quire/marks"
	"quire/ops"
	"quire/seq"
)

// model: the chapter's words, clock by clock, with the layers below as they are.
type model struct {
	told  map[api.Id]api.Op // all that came, each cut to one clock
	known map[api.Id]int    // whose clocks: 1, of void ones 2
	turns []api.Turn        // all that came
	seq   *seq.Seq
	maps  *maps.Maps
	marks []api.Op
}

func newModel() *model {
	return &model{told: map[api.Id]api.Op{}, known: map[api.Id]int{}, seq: seq.New(), maps: maps.New()}
}

func (m *model) copy() *model {
	c := newModel()
	for x, o := range m.told {
		c.told[x] = o
	}
	for x, n := range m.known {
		c.known[x] = n
	}
	c.turns, c.seq, c.maps, c.marks = slices.Clone(m.turns), m.seq.Copy(), m.maps.Copy(), slices.Clone(m.marks)
	return c
}

func (m *model) apply(u api.Update) (bool, api.Errno) {
	if len(u.Ops) > api.MaxOps || len(u.Turns) > api.MaxOps || slices.ContainsFunc(u.Ops, func(o api.Op) bool { return ops.Check(o) != api.OK }) {
		return false, api.ErrOpForm
	}
	vector, turns, waiting := m.vector(), ids.Turns(m.turns), m.waiting()
	for _, o := range u.Ops {
		for k := range ops.Len(o) {
			one, _ := ops.Cut(o, k, k+1)
			if _, ok := m.told[one.Id]; !ok {
				m.told[one.Id] = one
			}
		}
	}
	m.turns = append(m.turns, u.Turns...)
	for m.step() {
	}
	return !slices.Equal(vector, m.vector()) || !slices.Equal(turns, ids.Turns(m.turns)) || waiting != m.waiting(), api.OK
}

// step makes one clock known, of those that are ready, and answers whether there is one.
func (m *model) step() bool {
	for _, o := range m.those(false) {
		if !m.isReady(o) {
			continue
		}
		m.known[o.Id] = 1
		if !m.do(o) {
			m.known[o.Id] = 2
		}
		return true
	}
	return false
}

func (m *model) isReady(o api.Op) bool {
	ready := o.Id.Clock == 1 || m.known[id(o.Id.Client, o.Id.Clock-1)] > 0
	for _, x := range ops.Needs(o) {
		ready = ready && m.known[x] > 0
	}
	return ready
}

func (m *model) do(o api.Op) bool {
	switch o.Kind {
	case api.OpText, api.OpEmbed:
		return m.seq.Insert(api.Unit{Id: o.Id, Left: o.Left, Right: o.Right})
	case api.OpSet:
		return m.maps.Set(o)
	}
	for _, x := range []api.Id{o.From.Id, o.To.Id} {
		if x != none && m.seq.Find(x) < 0 {
			return false
		}
	}
	m.marks = append(m.marks, o)
	return true
}

// those: the operations that are known, or that wait, clock by clock, by ids.
func (m *model) those(known bool) []api.Op {
	var out []api.Op
	for x, o := range m.told {
		if m.known[x] > 0 == known {
			out = append(out, o)
		}
	}
	slices.SortFunc(out, byId)
	return out
}

func (m *model) vector() []api.Clock {
	var out []api.Clock
	for _, o := range m.those(true) {
		if last := len(out) - 1; last >= 0 && out[last].Client == o.Id.Client {
			out[last].Clock = o.Id.Clock
			continue
		}
		out = append(out, api.Clock{Client: o.Id.Client, Clock: o.Id.Clock})
	}
	return out
}

func (m *model) waiting() int { return len(m.those(false)) }

func (m *model) stamp() uint64 {
	n := uint64(0)
	for _, o := range m.those(true) {
		n = max(n, o.Stamp)
	}
	return n
}

func (m *model) isDeleted(x api.Id) bool { return ids.TurnOf(m.turns, x)%2 == 1 }

func (m *model) shownMarks() []api.Op {
	out := slices.DeleteFunc(slices.Clone(m.marks), func(o api.Op) bool { return m.isDeleted(o.Id) })
	slices.SortFunc(out, byId)
	return out
}

func (m *model) units() []api.Id {
	var out []api.Id
	for _, u := range m.seq.All() {
		if !m.isDeleted(u.Id) {
			out = append(out, u.Id)
		}
	}
	return out
}

func (m *model) hiding() *maps.Maps {
	c := m.maps.Copy()
	c.Hide(ids.Hidden(m.turns))
	return c
}

// view: a run for each unit; then those that belong together are joined.
func (m *model) view() api.View {
	var out []api.Run
	for _, x := range m.units() {
		o := m.told[x]
		r := api.Run{Text: o.Text, Embed: o.Kind == api.OpEmbed, V: o.V, Marks: marks.At(m.seq, m.shownMarks(), m.seq.Find(x))}
		if last := len(out) - 1; last >= 0 && !r.Embed && !out[last].Embed && marks.Same(out[last].Marks, r.Marks) {
			out[last].Text += r.Text
			continue
		}
		out = append(out, r)
	}
	return api.View{Runs: out, Map: m.hiding().View()}
}

// pair: a document, and the model of what it was told.
type pair struct {
	d *doc.Doc
	m *model
}

func newPair() pair { return pair{doc.New(), newModel()} }

func (p pair) copy() pair { return pair{p.d.Copy(), p.m.copy()} }

func (p pair) apply(t *testing.T, u api.Update) {
	t.Helper()
	got, e := tell(t, p.d, u)
	if want, wrong := p.m.apply(u); got != want || e != wrong {
		t.Fatalf("P13.1: Apply %v: %t, %v, not %t, %v", u, got, e, want, wrong)
	}
	if got, want := p.d.Waiting(), p.m.waiting(); got != want {
		t.Fatalf("P13.3: Waiting: %d, not %d", got, want)
	}
}

// check: whether all that can be asked of the document is answered by the chapter's words.
func (p pair) check(t *testing.T) {
	t.Helper()
	same(t, "P13.3: Vector", p.d.Vector(), p.m.vector())
	same(t, "P13.3: Turns", p.d.Turns(), ids.Turns(p.m.turns))
	same(t, "P13.3: Dels", p.d.Dels(), ids.Hidden(p.m.turns))
	sameOps(t, "P13.3: Ops", p.d.Ops(), ops.Join(p.m.those(true))...)
	sameOps(t, "P13.3: Pending", p.d.Pending(), ops.Join(p.m.those(false))...)
	sameOps(t, "P13.3: Marks", p.d.Marks(), p.m.shownMarks()...)
	if got, want := p.d.Stamp(), p.m.stamp(); got != want {
		t.Fatalf("P13.3: Stamp: %d, not %d", got, want)
	}
	if got, want := p.d.Waiting(), p.m.waiting(); got != want {
		t.Fatalf("P13.3: Waiting: %d, not %d", got, want)
	}
	same(t, "P13.3: Seq", unitsOf(p.d.Seq()), unitsOf(p.m.seq))
	same(t, "P13.4: Units", p.d.Units(), p.m.units())
	sameView(t, "P13.4: View", p.d.View(), p.m.view())
	p.checkMaps(t)
	p.checkIds(t)
}

func (p pair) checkMaps(t *testing.T) {
	t.Helper()
	got, want := p.d.Maps(), p.m.hiding()
	if !exactEntries(got.View(), want.View()) {
		t.Fatalf("P13.3: Maps: %v, not %v", got.View(), want.View())
	}
	for x, o := range p.m.told {
		if got.Is(x) != want.Is(x) {
			t.Fatalf("P13.3: Maps: Is %v: %t", x, got.Is(x))
		}
		a, isA := got.Get(o.Parent, o.Key)
		if b, isB := want.Get(o.Parent, o.Key); !exactOp(a, b) || isA != isB {
			t.Fatalf("P13.3: Maps: Get %v %q: %v, not %v", o.Parent, o.Key, a, b)
		}
	}
}

func (p pair) checkIds(t *testing.T) {
	t.Helper()
	all := []api.Id{none, id(0, 1), id(1, 0), id(9, 9), id(top, top), id(top+1, 1), id(1, top+1), id(1, math.MaxUint64)}
	for x := range p.m.told {
		all = append(all, x, id(x.Client, x.Clock+1), id(x.Client+1, x.Clock))
	}
	for _, x := range all {
		var want api.Op
		if p.m.known[x] > 0 {
			want = p.m.told[x]
		}
		if got, ok := p.d.Get(x); ok != (p.m.known[x] > 0) || !exactOp(got, want) {
			t.Fatalf("P13.3: Get %v: %v, %t, not %v", x, got, ok, want)
		}
		if got, want := p.d.Void(x), p.m.known[x] == 2; got != want {
			t.Fatalf("P13.3: Void %v: %t", x, got)
		}
	}
}

// story: operations and turns such as writers make, and others that nobody would: what they name may be deleted, void, no unit, no map, not there yet, never there.
type story struct {
	next func(int) int
	m    *model // that knows all that was made, where it can be known
	ends map[uint64]uint64
	ops  []api.Op
}

func newStory(next func(int) int) *story {
	return &story{next: next, m: newModel(), ends: map[uint64]uint64{}}
}

func clients() []uint64 { return []uint64{1, 2, 3, top} }

// anyId: one that may be there, or come, or never come.
func (s *story) anyId() api.Id {
	switch s.next(8) {
	case 0:
		return none
	case 1:
		return id(clients()[s.next(4)], uint64(1+s.next(30)))
	}
	all := s.m.those(true)
	if len(all) == 0 {
		return none
	}
	return all[s.next(len(all))].Id
}

// between: two units that stand in order, or ends of the document, or something else.
func (s *story) between() (left, right api.Id) {
	if s.next(10) == 0 {
		return s.anyId(), s.anyId()
	}
	n := s.m.seq.Len()
	at := s.next(n + 1)
	if u, ok := s.m.seq.At(at - 1); ok {
		left = u.Id
	}
	if u, ok := s.m.seq.At(at + s.next(3)*s.next(2)); ok {
		right = u.Id
	}
	return left, right
}

func (s *story) value() api.Value {
	l := []api.Value{null, boolean(1), integer(int64(s.next(3))), float(0), float(math.Copysign(0, -1)), floatOf(0xFFF0000000000001), words("x")}
	return l[s.next(len(l))]
}

// parent: the root, or one of a few that may be maps.
func (s *story) parent() api.Id {
	var l []api.Id
	for _, o := range s.m.those(true) {
		if s.m.maps.Is(o.Id) {
			l = append(l, o.Id)
		}
	}
	if n := s.next(len(l) + 2); n < len(l) {
		return l[n]
	}
	if s.next(5) == 0 {
		return s.anyId()
	}
	return none
}

func (s *story) op() api.Op {
	o := api.Op{Id: id(clients()[s.next(4)], 1), Kind: api.OpText}
	o.Id.Clock += s.ends[o.Id.Client]
	switch s.next(8) {
	case 0:
		o.Kind, o.V = api.OpEmbed, s.value()
		o.Left, o.Right = s.between()
	case 1, 2:
		o.Kind, o.Stamp, o.Key, o.V = api.OpMark, uint64(1+s.next(9)), string(rune('a'+s.next(2))), s.value()
		o.From.Id, o.To.Id = s.between()
		if s.next(3) > 0 {
			_, o.To.Id = s.between()
		}
		o.From.After, o.To.After = s.next(2) == 0, s.next(2) == 0
	case 3, 4:
		o.Kind, o.Stamp, o.Key, o.V, o.Parent = api.OpSet, uint64(1+s.next(9)), string(rune('s'+s.next(2))), s.value(), s.parent()
		if s.next(2) == 0 {
			o.V = api.Value{Kind: api.ValMap}
		}
	default:
		o.Left, o.Right = s.between()
		o.Text = string([]rune("aé€\U0001F600z")[:1+s.next(5)])
	}
	return o
}

// tell makes one more operation, if it is a right one.
func (s *story) tell() {
	o := s.op()
	if ops.Check(o) != api.OK {
		return
	}
	s.ends[o.Id.Client] += uint64(ops.Len(o))
	s.ops = append(s.ops, o)
	s.m.apply(up(o))
}

// turn: one of ids that there may be, most often a right one.
func (s *story) turn() api.Turn {
	x := s.anyId()
	t := turn(x.Client, x.Clock, x.Clock+1+uint64(s.next(4)), uint64(s.next(5)))
	switch s.next(30) {
	case 0:
		t.To = []uint64{top, top + 1, top + 2, math.MaxUint64}[s.next(4)]
	case 1:
		t.N = []uint64{top, top + 1, math.MaxUint64}[s.next(3)]
	case 2:
		t.From, t.To = t.To, t.From
	case 3:
		t.Client = top + 1
	}
	return t
}

// piece: any of o's, the whole of it most often.
func (s *story) piece(o api.Op) api.Op {
	n := ops.Len(o)
	if s.next(2) == 0 {
		return o
	}
	from := s.next(n)
	p, _ := ops.Cut(o, from, from+1+s.next(n-from))
	return p
}

// update: pieces of what was made, and turns, seldom with something wrong among them.
func (s *story) update() api.Update {
	var u api.Update
	for range s.next(4) {
		if len(s.ops) > 0 {
			u.Ops = append(u.Ops, s.piece(s.ops[s.next(len(s.ops))]))
		}
	}
	for range s.next(3) * s.next(2) {
		u.Turns = append(u.Turns, s.turn())
	}
	if s.next(20) == 0 {
		wrong := wrongOps()
		u.Ops = slices.Insert(u.Ops, s.next(len(u.Ops)+1), wrong[s.next(len(wrong))])
	}
	return u
}

// live: updates of a story, told to a document and to copies of it, that go their own ways; each is held to the model.
func live(t *testing.T, next func(int) int, made, steps int) {
	s := newStory(next)
	for range made {
		s.tell()
	}
	l := []pair{newPair()}
	for range steps {
		p := l[next(len(l))]
		if next(20) == 0 && len(l) < 3 {
			l = append(l, p.copy())
		}
		p.apply(t, s.update())
		if next(6) == 0 {
			for _, p := range l {
				p.check(t)
			}
		}
	}
	for _, p := range l {
		p.check(t)
		p.apply(t, up(s.ops...)) // whatever can be known is
		p.check(t)
		same(t, "P13.5: Vector", p.d.Vector(), s.m.vector())
	}
}

func TestP13_1To4ByTheModel(t *testing.T) {
	for seed := range int64(300) {
		r := rand.New(rand.NewSource(seed))
		live(t, r.Intn, 5+r.Intn(30), 10+r.Intn(40))
	}
}

func FuzzP13_1To4ByTheModel(f *testing.F) {
	f.Add([]byte{})
	f.Add([]byte{7, 9, 1, 2, 3, 4, 5, 6, 7, 8, 9, 10, 11, 12, 13, 14, 15, 16, 17, 18, 19, 20})
	f.Add([]byte{3, 1, 7, 0, 2, 2, 2, 2, 1, 1, 5, 4, 3, 0, 0, 9, 9, 9, 4, 0, 1, 2, 3, 4, 5, 6, 7, 8, 9, 10, 11, 2, 4, 6, 8, 3, 3, 3, 7, 7, 1})
	f.Fuzz(func(t *testing.T, b []byte) {
		steps := min(len(b)/8, 40)
		live(t, func(n int) int {
			if len(b) == 0 {
				return 0
			}
			x := int(b[0]) % n
			b = b[1:]
			return x
		}, steps/2, steps)
	})
}
