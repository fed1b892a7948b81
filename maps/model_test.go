package maps_test

import (
	"math"
	"math/rand"
	"slices"
	"sort"
	"testing"

	"quire/api"
	"quire/maps"
)

const (
	top = api.MaxId
	// theNaN: the bits of the one NaN that is ever answered.
	theNaN = 0x7FF8000000000000
)

// root: the zeros that tell the root map.
var root api.Id

func id(client, clock uint64) api.Id { return api.Id{Client: client, Clock: clock} }

var null, aMap = api.Value{}, api.Value{Kind: api.ValMap}

func boolean(n int64) api.Value { return api.Value{Kind: api.ValBool, N: n} }

func integer(n int64) api.Value { return api.Value{Kind: api.ValInt, N: n} }

func float(f float64) api.Value { return api.Value{Kind: api.ValFloat, F: f} }

func floatOf(bits uint64) api.Value { return float(math.Float64frombits(bits)) }

func text(s string) api.Value { return api.Value{Kind: api.ValText, S: s} }

func set(x api.Id, stamp uint64, parent api.Id, key string, v api.Value) api.Op {
	return api.Op{Id: x, Kind: api.OpSet, Stamp: stamp, Parent: parent, Key: key, V: v}
}

func list(l ...api.Op) []api.Op { return l }

// only: the ranges of just these ids.
func only(l ...api.Id) []api.Range {
	var out []api.Range
	for _, x := range l {
		out = append(out, api.Range{Client: x.Client, From: x.Clock, To: x.Clock + 1})
	}
	return out
}

// triples: ranges as tables tell them: client, From, To.
type triples [][3]uint64

func ranges(l triples) []api.Range {
	var out []api.Range
	for _, x := range l {
		out = append(out, api.Range{Client: x[0], From: x[1], To: x[2]})
	}
	return out
}

// is: an entry of a key, a value, and, of a map, its entries.
func is(key string, v api.Value, kids ...api.Entry) api.Entry {
	return api.Entry{Key: key, V: v, Kids: kids}
}

func entries(l ...api.Entry) []api.Entry { return l }

func alike(a, b api.Value) bool {
	return a.Kind == b.Kind && a.N == b.N && math.Float64bits(a.F) == math.Float64bits(b.F) && a.S == b.S
}

func exactOp(a, b api.Op) bool {
	if !alike(a.V, b.V) {
		return false
	}
	a.V, b.V = null, null
	return a == b
}

func exactEntries(a, b []api.Entry) bool {
	return slices.EqualFunc(a, b, func(x, y api.Entry) bool {
		return x.Key == y.Key && alike(x.V, y.V) && exactEntries(x.Kids, y.Kids)
	})
}

// aside: l in other memory, with as much spare room behind it; when the test ends, all of that must be as it is now.
func aside[T comparable](t *testing.T, l []T) []T {
	t.Helper()
	whole := slices.Concat(l, l)
	was := slices.Clone(whole)
	t.Cleanup(func() {
		if !slices.Equal(whole, was) {
			t.Errorf("what was handed in has changed: %v, not %v", whole, was)
		}
	})
	return whole[:len(l)]
}

// of: maps that these sets were told to, each of which must be taken.
func of(t *testing.T, l ...api.Op) *maps.Maps {
	t.Helper()
	m := maps.New()
	for _, o := range l {
		if !m.Set(o) {
			t.Fatalf("refused: %v", o)
		}
	}
	return m
}

func checkView(t *testing.T, what string, m *maps.Maps, want ...api.Entry) {
	t.Helper()
	if got := m.View(); !exactEntries(got, want) {
		t.Errorf("%s: View: %v, not %v", what, got, want)
	}
}

// checkGet: whether Get tells the set with this id; zeros: none.
func checkGet(t *testing.T, what string, m *maps.Maps, parent api.Id, key string, want api.Id) {
	t.Helper()
	o, ok := m.Get(parent, key)
	if o.Id != want || ok != (want != root) || !ok && o != (api.Op{}) {
		t.Errorf("%s: Get %v %q: %v, %v, not that of %v", what, parent, key, o, ok, want)
	}
}

// model: the chapter's words: all sets in a list, gone through anew whenever something is asked.
type model struct {
	sets   []api.Op
	hidden []api.Range
}

func (m *model) find(x api.Id) int {
	return slices.IndexFunc(m.sets, func(o api.Op) bool { return o.Id == x })
}

func rightNumber(n uint64) bool { return 1 <= n && n <= top }

func (m *model) set(o api.Op) bool {
	right := rightNumber(o.Id.Client) && rightNumber(o.Id.Clock)
	if o.Kind != api.OpSet || !right || m.find(o.Id) >= 0 || !m.is(o.Parent) {
		return false
	}
	m.sets = append(m.sets, o)
	return true
}

func (m *model) is(x api.Id) bool {
	i := m.find(x)
	return x == root || i >= 0 && m.sets[i].V.Kind == api.ValMap
}

func (m *model) isHidden(x api.Id) bool {
	for _, r := range m.hidden {
		right := rightNumber(r.Client) && 1 <= r.From && r.From < r.To && r.To <= top+1
		if right && r.Client == x.Client && r.From <= x.Clock && x.Clock < r.To {
			return true
		}
	}
	return false
}

func less(a, b api.Op) bool {
	switch {
	case a.Stamp != b.Stamp:
		return a.Stamp < b.Stamp
	case a.Id.Client != b.Id.Client:
		return a.Id.Client < b.Id.Client
	}
	return a.Id.Clock < b.Id.Clock
}

func (m *model) get(parent api.Id, key string) (api.Op, bool) {
	var best api.Op
	there := false
	for _, o := range m.sets {
		if o.Parent == parent && o.Key == key && !m.isHidden(o.Id) && (!there || less(best, o)) {
			best, there = o, true
		}
	}
	if !there || best.V.Kind == api.ValNull {
		return api.Op{}, false
	}
	if best.V.F != best.V.F {
		best.V.F = math.Float64frombits(theNaN)
	}
	return best, true
}

func (m *model) follow(path []string) (api.Id, bool) {
	at := root
	for _, key := range path {
		o, ok := m.get(at, key)
		if !ok || o.V.Kind != api.ValMap {
			return root, false
		}
		at = o.Id
	}
	return at, true
}

func (m *model) keys() []string {
	var out []string
	for _, o := range m.sets {
		out = append(out, o.Key)
	}
	sort.Strings(out)
	return slices.Compact(out)
}

func (m *model) view(x api.Id) []api.Entry {
	var out []api.Entry
	for _, key := range m.keys() {
		o, ok := m.get(x, key)
		if !ok {
			continue
		}
		e := api.Entry{Key: key, V: o.V}
		if o.V.Kind == api.ValMap {
			e.Kids = m.view(o.Id)
		}
		out = append(out, e)
	}
	return out
}

func (m *model) copy() *model {
	return &model{sets: slices.Clone(m.sets), hidden: slices.Clone(m.hidden)}
}

// pair: maps, and the model of them.
type pair struct {
	m *maps.Maps
	w *model
}

func newPair() pair { return pair{maps.New(), &model{}} }

func (p pair) set(t *testing.T, o api.Op) {
	t.Helper()
	if got, want := p.m.Set(o), p.w.set(o); got != want {
		t.Fatalf("Set %v: %v", o, got)
	}
}

func (p pair) hide(l []api.Range) {
	p.m.Hide(l)
	p.w.hidden = slices.Clone(l)
}

// check: whether all that can be asked is answered by the chapter's words.
func (p pair) check(t *testing.T) {
	t.Helper()
	keys := append(p.w.keys(), "not there")
	parents := []api.Id{root, id(0, 1), id(1, 0), id(9, 9), id(top+1, 1)}
	for _, o := range p.w.sets {
		parents = append(parents, o.Id)
	}
	for _, x := range parents {
		if got, want := p.m.Is(x), p.w.is(x); got != want {
			t.Fatalf("Is %v: %v", x, got)
		}
		for _, key := range keys {
			got, ok := p.m.Get(x, key)
			if want, there := p.w.get(x, key); !exactOp(got, want) || ok != there {
				t.Fatalf("Get %v %q: %v, %v, not %v, %v", x, key, got, ok, want, there)
			}
		}
	}
	for _, one := range keys {
		for _, two := range keys {
			for _, path := range [][]string{nil, {one}, {one, two}, {one, two, one}, {one, one, two, two}} {
				got, ok := p.m.Find(path)
				if want, there := p.w.follow(path); got != want || ok != there {
					t.Fatalf("Find %q: %v, %v, not %v, %v", path, got, ok, want, there)
				}
			}
		}
	}
	if got, want := p.m.View(), p.w.view(root); !exactEntries(got, want) {
		t.Fatalf("View: %v, not %v", got, want)
	}
}

// drawSet: a set, most often one that can be laid: of few ids, stamps and keys, so that many are to be held against one another.
func drawSet(r *rand.Rand, w *model) api.Op {
	keys := []string{"", "a", "b", "ab", "é"}
	values := []api.Value{null, null, boolean(0), integer(-3), float(0), float(math.Copysign(0, -1)), floatOf(0xFFF0000000000001), text("x"), aMap, aMap, aMap}
	o := set(id(uint64(1+r.Intn(4)), uint64(1+r.Intn(12))), uint64(1+r.Intn(5)), root, keys[r.Intn(len(keys))], values[r.Intn(len(values))])
	switch n := r.Intn(len(w.sets) + 1); {
	case n < len(w.sets):
		o.Parent = w.sets[n].Id
	case r.Intn(8) == 0:
		o.Parent = id(uint64(r.Intn(5)), uint64(r.Intn(13)))
	}
	switch r.Intn(24) {
	case 0:
		o.Kind = r.Intn(7) - 1
	case 1:
		o.Id.Client = []uint64{0, top, top + 1, math.MaxUint64}[r.Intn(4)]
	case 2:
		o.Id.Clock = []uint64{0, top, top + 1, math.MaxUint64}[r.Intn(4)]
	}
	return o
}

// drawRanges: ranges of ids that drawSet draws, in no order, some of them wrong.
func drawRanges(r *rand.Rand) []api.Range {
	var out []api.Range
	for range r.Intn(5) {
		from := uint64(r.Intn(13))
		x := api.Range{Client: uint64(r.Intn(5)), From: from, To: from + uint64(r.Intn(5))}
		switch r.Intn(12) {
		case 0:
			x.To = []uint64{top, top + 1, top + 2, math.MaxUint64}[r.Intn(4)]
		case 1:
			x.From, x.To = x.To, x.From
		case 2:
			x.Client = []uint64{top, top + 1, math.MaxUint64}[r.Intn(3)]
		}
		out = append(out, x)
	}
	return out
}

// TestP12_2ByTheModel: sets and hides as draws have them, and copies that go their own ways.
func TestP12_2ByTheModel(t *testing.T) {
	for round := range 250 {
		r := rand.New(rand.NewSource(int64(round)))
		l := []pair{newPair()}
		for range 40 {
			p := l[r.Intn(len(l))]
			switch n := r.Intn(12); {
			case n == 0 && len(l) < 3:
				l = append(l, pair{p.m.Copy(), p.w.copy()})
			case n <= 2:
				p.hide(drawRanges(r))
			default:
				p.set(t, drawSet(r, p.w))
			}
			for _, p := range l {
				p.check(t)
			}
		}
	}
}

// TestP12_2OneKeyByTheModel: many sets of one key, of which few or many are hidden, the greatest ones most often.
func TestP12_2OneKeyByTheModel(t *testing.T) {
	for round := range 300 {
		r := rand.New(rand.NewSource(int64(round)))
		p := newPair()
		n := 1 + r.Intn(70)
		for _, i := range r.Perm(n) {
			v := integer(int64(i))
			if r.Intn(9) == 0 {
				v = null
			}
			p.set(t, set(id(uint64(1+i%3), uint64(1+i)), uint64(1+i/2), root, "k", v))
		}
		for range 20 {
			var hidden []api.Range
			from := r.Intn(n)
			for i, odds := 0, 1+r.Intn(6); i < n; i++ {
				if i >= from && r.Intn(9) > 0 || r.Intn(odds) == 0 {
					hidden = append(hidden, only(id(uint64(1+i%3), uint64(1+i)))...)
				}
			}
			p.hide(hidden)
			got, ok := p.m.Get(root, "k")
			if want, there := p.w.get(root, "k"); !exactOp(got, want) || ok != there {
				t.Fatalf("round %d: %v, %v, not %v, %v", round, got, ok, want, there)
			}
		}
	}
}

// FuzzP12_2ByTheModel: four bytes a step; ids that are told again are refused.
func FuzzP12_2ByTheModel(f *testing.F) {
	f.Add([]byte{0x11, 2, 0x40, 2, 0x12, 3, 0x40, 0, 0xF1, 2, 1, 0})
	f.Add([]byte{0x11, 1, 0, 5, 0x12, 1, 0x11, 5, 0x13, 9, 0x12, 2, 0x14, 2, 0, 1, 0xF1, 4, 1, 0})
	f.Add([]byte{0x21, 1, 0, 5, 0xF2, 1, 9, 0, 0xE0, 0, 0, 0, 0x22, 7, 0x21, 3, 0xF0, 0, 0, 0})
	f.Fuzz(func(t *testing.T, b []byte) {
		l := []pair{newPair()}
		for ; len(b) >= 4 && len(l[0].w.sets) < 30; b = b[4:] {
			p := l[int(b[3]>>4)%len(l)]
			switch {
			case b[0] >= 0xF0:
				from := uint64(b[1])
				p.hide(append(slices.Clip(p.w.hidden), api.Range{Client: uint64(b[0] & 15), From: from, To: from + uint64(b[2])}))
			case b[0] >= 0xE0:
				p.hide(nil)
			case b[0] >= 0xD0 && len(l) < 4:
				l = append(l, pair{p.m.Copy(), p.w.copy()})
			default:
				v := api.Value{Kind: int(b[3] & 7), N: int64(b[3] >> 6)}
				p.set(t, set(id(uint64(b[0]>>4), uint64(b[0]&15)), uint64(b[1]>>3), id(uint64(b[2]>>4), uint64(b[2]&15)), string(rune('a'+b[1]&7)), v))
			}
		}
		for _, p := range l {
			p.check(t)
		}
	})
}
