package store_test

import (
	"math"
	"math/rand"
	"slices"
	"sort"
	"strings"
	"testing"

	"quire/api"
	"quire/ops"
	"quire/store"
)

const (
	top  = api.MaxId
	full = api.MaxText
)

var none api.Id

func id(client, clock uint64) api.Id { return api.Id{Client: client, Clock: clock} }

func text(client, clock uint64, left, right api.Id, s string) api.Op {
	return api.Op{Id: id(client, clock), Kind: api.OpText, Left: left, Right: right, Text: s}
}

// at: a text that has nothing on its right, behind its client's last rune, if there is one.
func at(client, clock uint64, s string) api.Op {
	left := none
	if clock > 1 {
		left = id(client, clock-1)
	}
	return text(client, clock, left, none, s)
}

func embed(client, clock uint64) api.Op {
	return api.Op{Id: id(client, clock), Kind: api.OpEmbed, Left: id(7, 7), V: api.Value{Kind: api.ValInt, N: 5}}
}

func mark(client, clock uint64) api.Op {
	return api.Op{Id: id(client, clock), Kind: api.OpMark, Stamp: 3, Key: "bold", V: api.Value{Kind: api.ValBool, N: 1}, From: api.Anchor{Id: id(7, 7)}, To: api.Anchor{After: true}}
}

func set(client, clock uint64) api.Op {
	return api.Op{Id: id(client, clock), Kind: api.OpSet, Stamp: top, Key: "k", V: api.Value{Kind: api.ValMap}, Parent: id(7, 8)}
}

// exact: whether a and b are alike to the last bit.
func exact(a, b api.Op) bool {
	if math.Float64bits(a.V.F) != math.Float64bits(b.V.F) {
		return false
	}
	a.V.F, b.V.F = 0, 0
	return a == b
}

// told: operations for a failing test to tell, with the beginnings of long texts.
func told(l ...api.Op) []api.Op {
	l = slices.Clone(l)
	for i, o := range l {
		runes := []rune(o.Text)
		l[i].Text = string(runes[:min(len(runes), 16)])
	}
	return l[:min(len(l), 8)]
}

func checkOps(t *testing.T, what string, got []api.Op, want ...api.Op) {
	t.Helper()
	if !slices.EqualFunc(got, want, exact) {
		t.Fatalf("%s: %d, not %d: %v, not %v", what, len(got), len(want), told(got...), told(want...))
	}
}

// wrongOps: some that ops.Check refuses.
func wrongOps() []api.Op {
	long := at(1, 1, strings.Repeat("é", full+1))
	stamped := at(1, 1, "a")
	stamped.Stamp = 1
	own := at(1, 1, "ab")
	own.Right = id(1, 2)
	kindless := at(1, 1, "a")
	kindless.Kind = 5
	unstamped := mark(1, 1)
	unstamped.Stamp = 0
	return []api.Op{
		{}, {Id: id(1, 1)}, long, stamped, own, kindless, unstamped,
		at(1, 1, ""), at(1, 1, "a\xFF"), at(0, 1, "a"), at(1, 0, "a"), at(top+1, 1, "a"), at(1, top+1, "a"), at(1, top, "ab"), at(math.MaxUint64, math.MaxUint64, "a"),
	}
}

// model: what the chapter says a store knows and lets wait, clock by clock.
type model struct {
	known map[api.Id]api.Op // each cut to one clock
	last  map[uint64]uint64 // by clients: how many are known
	waits []api.Op
}

func newModel() *model { return &model{known: map[api.Id]api.Op{}, last: map[uint64]uint64{}} }

// one: the k-th clock of o alone.
func one(o api.Op, k int) api.Op {
	o, _ = ops.Cut(o, k, k+1)
	return o
}

// unknown: what of o isn't known; it is its end, since a client's clocks are known from 1 on.
func (m *model) unknown(o api.Op) []api.Op {
	for k := range ops.Len(o) {
		if _, ok := m.known[one(o, k).Id]; !ok {
			p, _ := ops.Cut(o, k, ops.Len(o))
			return []api.Op{p}
		}
	}
	return nil
}

func (m *model) follows(o api.Op) bool { return o.Id.Clock-1 <= m.last[o.Id.Client] }

func (m *model) add(o api.Op) []api.Op {
	if ops.Check(o) != api.OK || !m.follows(o) {
		return nil
	}
	news := m.unknown(o)
	for _, p := range news {
		for k := range ops.Len(p) {
			x := one(p, k)
			m.known[x.Id] = x
			m.last[x.Id.Client]++
		}
	}
	return news
}

func (m *model) vector() []api.Clock {
	var out []api.Clock
	for client, clock := range m.last {
		if clock > 0 {
			out = append(out, api.Clock{Client: client, Clock: clock})
		}
	}
	sort.Slice(out, func(i, j int) bool { return out[i].Client < out[j].Client })
	return out
}

// since: ops.Join of single clocks is that of the wholes (P8.5).
func (m *model) since(v []api.Clock) []api.Op {
	var l []api.Op
	for x, o := range m.known {
		if !slices.ContainsFunc(v, func(c api.Clock) bool { return c.Client == x.Client && c.Clock >= x.Clock }) {
			l = append(l, o)
		}
	}
	return ops.Join(l)
}

// heard: whether an id is known, or waits.
func (m *model) heard(x api.Id) bool {
	_, ok := m.known[x]
	for _, o := range m.waits {
		ok = ok || o.Id.Client == x.Client && o.Id.Clock <= x.Clock && x.Clock < ops.Range(o).To
	}
	return ok
}

func (m *model) wait(o api.Op) {
	if ops.Check(o) != api.OK {
		return
	}
	n := ops.Len(o)
	news := make([]bool, n)
	for k := range n {
		news[k] = !m.heard(one(o, k).Id)
	}
	for from := 0; from < n; from++ {
		to := from
		for to < n && news[to] {
			to++
		}
		if p, ok := ops.Cut(o, from, to); ok {
			m.waits = append(m.waits, p)
			from = to
		}
	}
}

// waiting: the clocks of what waits, but for those that have become known: these wait no more.
func (m *model) waiting() int {
	n := 0
	for _, o := range m.waits {
		for _, p := range m.unknown(o) {
			n += ops.Len(p)
		}
	}
	return n
}

func (m *model) next() []api.Op {
	for {
		best := -1
		for i, o := range m.waits {
			if m.follows(o) && (best < 0 || isLess(o.Id, m.waits[best].Id)) {
				best = i
			}
		}
		if best < 0 {
			return nil
		}
		o := m.waits[best]
		m.waits = slices.Delete(m.waits, best, best+1)
		if news := m.unknown(o); len(news) > 0 {
			return news
		}
	}
}

func isLess(a, b api.Id) bool {
	return a.Client < b.Client || a.Client == b.Client && a.Clock < b.Clock
}

// pair: a store, and the model of what it was told.
type pair struct {
	*testing.T
	s *store.Store
	m *model
}

func newPair(t *testing.T) pair { return pair{t, store.New(), newModel()} }

func (p pair) add(o api.Op) []api.Op {
	p.Helper()
	got := p.s.Add(o)
	checkOps(p.T, "P10.1: Add", got, p.m.add(o)...)
	p.checkCounts()
	return got
}

func (p pair) wait(o api.Op) {
	p.Helper()
	p.s.Wait(o)
	p.m.wait(o)
	p.checkCounts()
}

func (p pair) next() (api.Op, bool) {
	p.Helper()
	o, ok := p.s.Next()
	want := p.m.next()
	if ok {
		checkOps(p.T, "P10.2: Next", []api.Op{o}, want...)
	} else if len(want) > 0 || !exact(o, api.Op{}) {
		p.Fatalf("P10.2: Next: %v, %v, not %v", told(o), ok, told(want...))
	}
	p.checkCounts()
	return o, ok
}

func (p pair) checkCounts() {
	p.Helper()
	if got, want := p.s.Known(), p.m.vector(); !slices.Equal(got, want) {
		p.Fatalf("P10.1: Known: %v, not %v", got, want)
	}
	if got, want := p.s.Waiting(), p.m.waiting(); got != want {
		p.Fatalf("P10.2: Waiting: %d, not %d", got, want)
	}
}

func (p pair) checkGet(x api.Id) {
	p.Helper()
	got, ok := p.s.Get(x)
	if want, there := p.m.known[x]; ok != there || !exact(got, want) {
		p.Fatalf("P10.1: Get %v: %v, %v, not %v", x, told(got), ok, told(want))
	}
}

func (p pair) checkSince(v ...api.Clock) []api.Op {
	p.Helper()
	got := p.s.Since(v)
	checkOps(p.T, "P10.1: Since", got, p.m.since(v)...)
	return got
}

// checkAll: all that the store tells without being changed, of each id that came or might have.
func (p pair) checkAll(clients []uint64, clocks uint64) {
	p.Helper()
	p.checkCounts()
	p.checkSince()
	for _, client := range clients {
		for clock := range clocks + 2 {
			p.checkGet(id(client, clock))
		}
	}
}

// line: a client's operations from clock 1 on, of some clocks in all: texts that go on where others end and texts that don't, and others among them; each as long as can be.
func line(client, clocks uint64, next func(int) int) []api.Op {
	var out []api.Op
	row := []rune("aé€\U0001F600zßは\U0001D11E")
	right := none
	for clock := uint64(1); clock <= clocks; clock = ops.Range(out[len(out)-1]).To {
		switch next(8) {
		case 0:
			out = append(out, embed(client, clock))
		case 1:
			out = append(out, mark(client, clock))
		case 2:
			out = append(out, set(client, clock))
		case 3:
			right = id(7, uint64(1+next(2)))
			fallthrough
		default:
			o := at(client, clock, string(row[:1+next(len(row))]))
			o.Right = right
			if clock > 1 && next(3) == 0 {
				o.Left = id(7, 3)
			}
			out = append(out, o)
		}
	}
	return ops.Join(out)
}

// piece: any of o's.
func piece(o api.Op, next func(int) int) api.Op {
	from := next(ops.Len(o))
	p, _ := ops.Cut(o, from, from+1+next(ops.Len(o)-from))
	return p
}

// live: calls drawn by next, each held to the model.
func live(t *testing.T, next func(int) int, steps int) {
	clients := []uint64{1, 2, 300, top}[:1+next(4)]
	clocks := uint64(1 + next(40))
	var all []api.Op
	for _, client := range clients {
		all = append(all, line(client, clocks, next)...)
	}
	wrong := wrongOps()
	p := newPair(t)
	for range steps {
		o := piece(all[next(len(all))], next)
		switch next(12) {
		case 0:
			o = wrong[next(len(wrong))]
			p.add(o)
			p.wait(o)
		case 1:
			p.checkGet(o.Id)
			p.checkSince(api.Clock{Client: o.Id.Client, Clock: o.Id.Clock}, api.Clock{Client: clients[0], Clock: uint64(next(40))})
		case 2, 3:
			p.add(o)
		case 4, 5, 6:
			if o, ok := p.next(); ok && next(4) > 0 {
				p.add(o)
			}
		default:
			p.wait(o)
		}
	}
	p.checkAll(clients, clocks+8)
}

func TestP10_1And2ByTheModel(t *testing.T) {
	for seed := range int64(400) {
		r := rand.New(rand.NewSource(seed))
		live(t, r.Intn, 20+r.Intn(150))
	}
}

func FuzzP10_1And2ByTheModel(f *testing.F) {
	f.Add([]byte{})
	f.Add([]byte{3, 39, 7, 4, 1, 2, 3, 0, 0, 9, 9, 9, 4, 0, 1, 2, 3, 4, 5, 6, 7, 8, 9, 10, 11, 2, 4, 6, 8})
	f.Fuzz(func(t *testing.T, b []byte) {
		steps := min(len(b), 300)
		live(t, func(n int) int {
			if len(b) == 0 {
				return 0
			}
			x := int(b[0]) % n
			b = b[1:]
			return x
		}, steps)
	})
}
