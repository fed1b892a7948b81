package seq_test

import (
	"math/rand"
	"slices"
	"sort"
	"testing"

	"quire/api"
	"quire/seq"
)

const top = api.MaxId

func id(client, clock uint64) api.Id { return api.Id{Client: client, Clock: clock} }

var none api.Id

// model: a sequence by the chapter's words: a tree that is told anew behind each unit that comes.
type model struct {
	order []api.Unit
	kin   map[api.Id]kin
}

// kin: a unit's parent (zeros: the root), and whether it is a left child of it.
type kin struct {
	parent api.Id
	left   bool
}

func newModel() *model { return &model{kin: map[api.Id]kin{}} }

func (m *model) find(id api.Id) int {
	return slices.IndexFunc(m.order, func(u api.Unit) bool { return u.Id == id })
}

func (m *model) insert(u api.Unit) bool {
	number := func(n uint64) bool { return 1 <= n && n <= top }
	left, right := m.find(u.Left), m.find(u.Right)
	switch {
	case !number(u.Id.Client) || !number(u.Id.Clock) || m.find(u.Id) >= 0:
		return false
	case u.Left != none && left < 0 || u.Right != none && right < 0:
		return false
	case u.Left != none && u.Right != none && right <= left:
		return false
	}
	m.kin[u.Id] = m.kinOf(u)
	m.tell(u)
	return true
}

func (m *model) run(u api.Unit, n int) bool {
	if n < 1 {
		return false
	}
	for k := range n {
		if v := nth(u, k); v.Id.Clock > top || m.find(v.Id) >= 0 {
			return false
		}
	}
	for k := range n {
		if !m.insert(nth(u, k)) {
			return false // the first one, or the test's own comparisons tell
		}
	}
	return true
}

// nth: of a run's units that with k ahead of it.
func nth(u api.Unit, k int) api.Unit {
	if k > 0 {
		u.Id.Clock += uint64(k)
		u.Left = id(u.Id.Client, u.Id.Clock-1)
	}
	return u
}

func (m *model) kinOf(u api.Unit) kin {
	if u.Right != none && (u.Left == none || slices.Contains(m.above(u.Right), u.Left)) {
		return kin{u.Right, true}
	}
	return kin{u.Left, false}
}

// above: a unit's ancestors.
func (m *model) above(x api.Id) []api.Id {
	var out []api.Id
	for x = m.kin[x].parent; x != none; x = m.kin[x].parent {
		out = append(out, x)
	}
	return out
}

// tell: the order with u, which is the last one that came. All Rights stood in the order ahead of it.
func (m *model) tell(u api.Unit) {
	kids := map[kin][]api.Unit{}
	for _, v := range append(slices.Clone(m.order), u) {
		kids[m.kin[v.Id]] = append(kids[m.kin[v.Id]], v)
	}
	places := map[api.Id]int{none: len(m.order)}
	for i, v := range m.order {
		places[v.Id] = i
	}
	var order []api.Unit
	var below func(parent api.Id, left bool)
	below = func(parent api.Id, left bool) {
		l := kids[kin{parent, left}]
		sort.Slice(l, func(i, j int) bool {
			if x, y := places[l[i].Right], places[l[j].Right]; x != y && !left {
				return x > y
			}
			return isLess(l[i].Id, l[j].Id)
		})
		for _, v := range l {
			below(v.Id, true)
			order = append(order, v)
			below(v.Id, false)
		}
	}
	below(none, false)
	m.order = order
}

func isLess(a, b api.Id) bool {
	return a.Client < b.Client || a.Client == b.Client && a.Clock < b.Clock
}

// checkSeq: whether each call that tells of s tells these units, in this order, and nothing else.
func checkSeq(t *testing.T, what string, s *seq.Seq, want []api.Unit) {
	t.Helper()
	if s.Len() != len(want) {
		t.Fatalf("%s: Len %d, not %d", what, s.Len(), len(want))
	}
	n := 0
	for i, u := range s.All() {
		if i != n || i >= len(want) || u != want[i] {
			t.Fatalf("%s: All: %v at %d (%d): %v, not %v", what, u, i, n, orderOf(s), idsOf(want))
		}
		n++
	}
	if n != len(want) {
		t.Fatalf("%s: All gives %d, not %d", what, n, len(want))
	}
	for i, u := range want {
		if got, ok := s.At(i); !ok || got != u {
			t.Fatalf("%s: At %d: %v, %v, not %v", what, i, got, ok, u)
		}
		if got := s.Find(u.Id); got != i {
			t.Fatalf("%s: Find %v: %d, not %d", what, u.Id, got, i)
		}
	}
	for _, i := range []int{-1 << 63, -1, len(want), len(want) + 1, 1<<63 - 1} {
		if u, ok := s.At(i); ok || u != (api.Unit{}) {
			t.Fatalf("%s: At %d: %v, %v", what, i, u, ok)
		}
	}
}

func idsOf(l []api.Unit) []api.Id {
	var out []api.Id
	for _, u := range l {
		out = append(out, u.Id)
	}
	return out
}

func orderOf(s *seq.Seq) []api.Id {
	var out []api.Id
	for _, u := range s.All() {
		out = append(out, u.Id)
	}
	return out
}

// draw: a unit that may come to m, or may not: its origins next to each other, apart, turned about, wrong.
func draw(r *rand.Rand, m *model, clients int) api.Unit {
	some := func() api.Id {
		switch n := r.Intn(len(m.order) + 2); {
		case n < len(m.order):
			return m.order[n].Id
		case r.Intn(20) == 0:
			return id(uint64(r.Intn(3)), uint64(r.Intn(50)))
		}
		return none
	}
	u := api.Unit{Id: id(uint64(1+r.Intn(clients)), uint64(1+r.Intn(60))), Left: some(), Right: some()}
	at := m.find(u.Left)
	switch r.Intn(4) {
	case 0: // next to each other
		if u.Right = none; at+1 < len(m.order) {
			u.Right = m.order[at+1].Id
		}
	case 1: // as they were when its Left came
		if at >= 0 {
			u.Right = m.order[at].Right
		}
	case 2: // with an ancestor
		if l := m.above(u.Right); len(l) > 0 {
			u.Left = l[r.Intn(len(l))]
		}
	}
	return u
}

func TestP9_2OrderByTheModel(t *testing.T) {
	for round := range 600 {
		r := rand.New(rand.NewSource(int64(round)))
		s, m := seq.New(), newModel()
		for step := range 1 + r.Intn(70) {
			u, n := draw(r, m, 1+round%5), 1
			was := slices.Clone(m.order)
			if r.Intn(3) == 0 {
				n = r.Intn(6) - 1
				if got, want := s.Run(u, n), m.run(u, n); got != want {
					t.Fatalf("round %d, step %d: Run %v %d: %v", round, step, u, n, got)
				}
			} else if got, want := s.Insert(u), m.insert(u); got != want {
				t.Fatalf("round %d, step %d: Insert %v: %v", round, step, u, got)
			}
			if slices.Equal(was, m.order) || step%8 == 0 {
				checkSeq(t, "", s, m.order)
			}
		}
		checkSeq(t, "", s, m.order)
	}
}

// TestP9_2DeepTreesByTheModel: long rows of units, each on the one ahead, on its left or its right or in turn, of one client or of several; then units whose origins lie anywhere along them.
func TestP9_2DeepTreesByTheModel(t *testing.T) {
	for round := range 24 {
		r := rand.New(rand.NewSource(int64(round)))
		s, m := seq.New(), newModel()
		add := func(u api.Unit) {
			if got, want := s.Insert(u), m.insert(u); got != want {
				t.Fatalf("round %d: Insert %v: %v", round, u, got)
			}
		}
		last, clients := none, uint64(1+round/3%4)
		for n := range uint64(150) {
			u := api.Unit{Id: id(1+n%clients, 1000+n), Left: last}
			if round%3 == 1 || round%3 == 2 && r.Intn(2) == 0 {
				u.Left, u.Right = none, last
			}
			add(u)
			last = u.Id
		}
		for range 120 {
			add(draw(r, m, 4))
		}
		checkSeq(t, "", s, m.order)
	}
}

func FuzzP9_2OrderByTheModel(f *testing.F) {
	f.Add([]byte{1, 0, 0, 1, 2, 1, 0, 1, 3, 1, 2, 1, 9, 1, 2, 3, 17, 1, 2, 2})
	f.Fuzz(func(t *testing.T, b []byte) {
		s, m := seq.New(), newModel()
		some := func(x byte) api.Id {
			if int(x) < len(m.order) {
				return m.order[x].Id
			}
			return id(uint64(x>>4&3), uint64(x&15))
		}
		for ; len(b) >= 4; b = b[4:] {
			u := api.Unit{Id: id(uint64(b[0]>>5), uint64(b[0]&31)), Left: some(b[1]), Right: some(b[2])}
			n := int(int8(b[3])) % 9
			if got, want := s.Run(u, n), m.run(u, n); got != want {
				t.Fatalf("Run %v %d: %v", u, n, got)
			}
		}
		checkSeq(t, "", s, m.order)
	})
}
