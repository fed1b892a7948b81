package update_test

import (
	"bytes"
	"encoding/binary"
	"math"
	"math/rand"
	"slices"
	"testing"

	"quire/api"
	"quire/doc"
	"quire/ids"
	"quire/ops"
	"quire/vector"
)

func modelClean(u api.Update) api.Update {
	return api.Update{Ops: ops.Join(u.Ops), Turns: ids.Turns(u.Turns)}
}

// modelMerge: what P16.1 says, clock by clock.
func modelMerge(l []api.Update) api.Update {
	var all api.Update
	told := map[api.Id]int{}
	for _, u := range l {
		for _, o := range u.Ops {
			for _, one := range clocksOf(o) {
				told[one.Id]++
				if told[one.Id] == 1 {
					all.Ops = append(all.Ops, one)
				}
			}
		}
		all.Turns = append(all.Turns, u.Turns...)
	}
	return modelClean(all)
}

// clocksOf: a right operation's clocks, each cut out of it; of a wrong one none.
func clocksOf(o api.Op) []api.Op {
	var l []api.Op
	if ops.Check(o) != api.OK {
		return nil
	}
	for k := range ops.Len(o) {
		one, _ := ops.Cut(o, k, k+1)
		l = append(l, one)
	}
	return l
}

// modelSince: what P16.3 says, clock by clock, and turn by turn.
func modelSince(d *doc.Doc, v []api.Clock, turns []api.Turn) api.Update {
	var news api.Update
	for _, o := range d.Ops() {
		for _, one := range clocksOf(o) {
			if !vector.Has(v, one.Id) {
				news.Ops = append(news.Ops, one)
			}
		}
	}
	for _, t := range d.Turns() {
		for n := t.From; n < t.To; n++ {
			if t.N > ids.TurnOf(turns, id(t.Client, n)) {
				news.Turns = append(news.Turns, turn(t.Client, n, n+1, t.N))
			}
		}
	}
	return modelClean(news)
}

func modelSame(a, b api.Update) bool {
	a, b = modelClean(a), modelClean(b)
	return slices.EqualFunc(a.Ops, b.Ops, ops.Same) && slices.Equal(a.Turns, b.Turns)
}

// modelBytes: the bytes that P16.2 tells, of an update as it is.
func modelBytes(u api.Update) []byte {
	b := raw(byte(0x51), len(u.Ops))
	for _, o := range u.Ops {
		b = append(b, raw(byte(o.Kind), modelId(o.Id))...)
		switch o.Kind {
		case api.OpText:
			b = append(b, raw(modelId(o.Left), modelId(o.Right), o.Text)...)
		case api.OpEmbed:
			b = append(b, raw(modelId(o.Left), modelId(o.Right), modelValue(o.V))...)
		case api.OpMark:
			b = append(b, raw(o.Stamp, modelId(o.From.Id), modelAfter(o.From), modelId(o.To.Id), modelAfter(o.To), o.Key, modelValue(o.V))...)
		case api.OpSet:
			b = append(b, raw(o.Stamp, modelId(o.Parent), o.Key, modelValue(o.V))...)
		}
	}
	b = append(b, raw(len(u.Turns))...)
	for _, t := range u.Turns {
		b = append(b, raw(t.Client, t.From, t.To, t.N)...)
	}
	return b
}

func modelId(x api.Id) []byte { return raw(x.Client, x.Clock) }

func modelAfter(a api.Anchor) byte {
	if a.After {
		return 1
	}
	return 0
}

func modelValue(v api.Value) []byte {
	b := []byte{byte(v.Kind)}
	switch v.Kind {
	case api.ValBool:
		return append(b, byte(v.N))
	case api.ValInt:
		return binary.AppendVarint(b, v.N)
	case api.ValFloat:
		if math.IsNaN(v.F) {
			return binary.BigEndian.AppendUint64(b, theNaN)
		}
		return binary.BigEndian.AppendUint64(b, math.Float64bits(v.F))
	case api.ValText:
		return append(b, raw(v.S)...)
	}
	return b
}

func modelWrite(u api.Update) ([]byte, api.Errno) {
	if slices.ContainsFunc(u.Ops, func(o api.Op) bool { return ops.Check(o) != api.OK }) {
		return nil, api.ErrOpForm
	}
	b := modelBytes(modelClean(u))
	if len(u.Ops) > api.MaxOps || len(u.Turns) > api.MaxOps || len(b) > api.MaxBytes {
		return nil, api.ErrUpdateForm
	}
	return b, api.OK
}

// modelReader takes parts as anybody may have spelt them; broken: something isn't there.
type modelReader struct {
	left   []byte
	broken bool
}

func (r *modelReader) take(n uint64) []byte {
	if n > uint64(len(r.left)) {
		r.left, r.broken = nil, true
		return make([]byte, 8)
	}
	taken := r.left[:n]
	r.left = r.left[n:]
	return taken
}

func (r *modelReader) uint() uint64 {
	n, size := binary.Uvarint(r.left)
	if size <= 0 {
		r.left, r.broken = nil, true
		return 0
	}
	r.left = r.left[size:]
	return n
}

func (r *modelReader) id() api.Id { return id(r.uint(), r.uint()) }

func (r *modelReader) anchor() api.Anchor {
	return api.Anchor{Id: r.id(), After: r.take(1)[0] > 0}
}

func (r *modelReader) text() string { return string(r.take(r.uint())) }

func (r *modelReader) value() api.Value {
	v := api.Value{Kind: int(r.take(1)[0])}
	switch v.Kind {
	case api.ValBool:
		v.N = int64(r.take(1)[0])
	case api.ValInt:
		n := r.uint()
		v.N = int64(n>>1) ^ -int64(n&1)
	case api.ValFloat:
		v.F = math.Float64frombits(binary.BigEndian.Uint64(r.take(8)))
	case api.ValText:
		v.S = r.text()
	}
	return v
}

func (r *modelReader) op() api.Op {
	o := api.Op{Kind: int(r.take(1)[0]), Id: r.id()}
	switch o.Kind {
	case api.OpText:
		o.Left, o.Right, o.Text = r.id(), r.id(), r.text()
	case api.OpEmbed:
		o.Left, o.Right, o.V = r.id(), r.id(), r.value()
	case api.OpMark:
		o.Stamp, o.From, o.To, o.Key, o.V = r.uint(), r.anchor(), r.anchor(), r.text(), r.value()
	case api.OpSet:
		o.Stamp, o.Parent, o.Key, o.V = r.uint(), r.id(), r.text(), r.value()
	}
	return o
}

// modelRead: what has b's bytes once it is read anyhow, if it is what is written of some update; and the fewest operations of such a one.
func modelRead(b []byte) (api.Update, []api.Op, api.Errno) {
	r := &modelReader{left: b}
	var u api.Update
	r.take(1)
	for n := r.uint(); n > 0 && !r.broken; n-- {
		u.Ops = append(u.Ops, r.op())
	}
	for n := r.uint(); n > 0 && !r.broken; n-- {
		u.Turns = append(u.Turns, turn(r.uint(), r.uint(), r.uint(), r.uint()))
	}
	from, found := modelSources(u.Ops)
	u = modelClean(api.Update{Ops: from, Turns: u.Turns})
	if !found || len(b) > api.MaxBytes || len(from) > api.MaxOps || modelFewest(u.Turns) > api.MaxOps || !bytes.Equal(modelBytes(u), b) {
		return api.Update{}, nil, api.ErrUpdateForm
	}
	return u, from, api.OK
}

// modelSources: the fewest right operations whose Join l is, and whether there are any.
func modelSources(l []api.Op) ([]api.Op, bool) {
	var out []api.Op
	for len(l) > 0 {
		n := 1
		for n < len(l) && l[n].Id.Client == l[0].Id.Client {
			n++
		}
		from, found := modelSourcesOfOne(l[:n])
		if !found || n < len(l) && l[n].Id.Client < l[0].Id.Client {
			return nil, false
		}
		out = append(out, from...)
		l = l[n:]
	}
	return out, true
}

// modelSourcesOfOne: the same of one client's; it tries each choice of those that may be pieces of a row ahead.
func modelSourcesOfOne(l []api.Op) ([]api.Op, bool) {
	var links [][2]int // places of l, the second one of which may be the piece of a row behind the first one
	for i, a := range l {
		for k := i + 1; ops.Len(a) == full && k < len(l); k++ {
			if ops.Fits(a, l[k]) {
				links = append(links, [2]int{i, k})
			}
		}
	}
	if len(links) > 12 {
		panic("too many choices for the model")
	}
	var best []api.Op
	found := false
	for choice := range 1 << len(links) {
		from := modelRows(l, links, choice)
		if slices.EqualFunc(ops.Join(from), l, ops.Same) && (!found || len(from) < len(best)) {
			best, found = from, true
		}
	}
	return best, found
}

// modelRows: the operations of all rows, if those links hold whose bits choice has.
func modelRows(l []api.Op, links [][2]int, choice int) []api.Op {
	behind, inner := make([]int, len(l)), make([]bool, len(l))
	for n, x := range links {
		if choice>>n&1 == 1 {
			behind[x[0]], inner[x[1]] = x[1], true
		}
	}
	var out []api.Op
	for i, o := range l {
		if inner[i] {
			continue
		}
		for at := behind[i]; at > 0; at = behind[at] {
			o.Text += l[at].Text
		}
		out = append(out, modelCut(o)...)
	}
	return out
}

// modelCut: a row's runes, from the last one back as many at once as may be, but none that name an id of their own.
func modelCut(o api.Op) []api.Op {
	var out []api.Op
	for n := ops.Len(o); n > full; n = ops.Len(o) {
		last, _ := ops.Cut(o, n-full, n)
		o, _ = ops.Cut(o, 0, n-full)
		out = append(out, last)
	}
	if last, some := ops.Cut(o, 1, ops.Len(o)); some && ops.Check(o) != api.OK {
		o, _ = ops.Cut(o, 0, 1)
		out = append(out, last)
	}
	return append(out, o)
}

// modelFewest: how many turns tell what these tell at least: one over each stretch of ids without gaps whose turns are that or more, if some are just that.
func modelFewest(l []api.Turn) int {
	stretches := map[api.Turn]int{}
	for i, t := range l {
		for ; i > 0 && l[i-1].Client == t.Client && l[i-1].To == l[i].From && l[i-1].N >= t.N; i-- {
		}
		stretches[turn(t.Client, l[i].From, 0, t.N)]++
	}
	return len(stretches)
}

// life: what some clients issued, from which updates tell pieces.
type life struct {
	next func(int) int
	ops  []api.Op
}

func newLife(next func(int) int) *life {
	l := &life{next: next}
	for _, x := range []api.Id{id(1, 1), id(2, 1), id(top, 1), id(3, top-7)} {
		l.issue(x)
	}
	return l
}

// issue: some operations of a client, one behind the other, with gaps at times.
func (l *life) issue(x api.Id) {
	for range l.next(6) {
		o := l.draw(x)
		last := x.Clock + uint64(ops.Len(o)) - 1
		if ops.Check(o) != api.OK {
			return
		}
		l.ops = append(l.ops, o)
		x.Clock = last + 1
		if l.next(8) == 1 {
			x.Clock++
		}
	}
}

func (l *life) draw(x api.Id) api.Op {
	v := values()[l.next(len(values())-1)]
	others := []api.Id{none, none, id(4, 1), id(5, top), id(x.Client, x.Clock-1), id(x.Client, x.Clock-1)}
	if x.Clock == 1 {
		others = others[:4]
	}
	left, right := others[l.next(len(others))], others[l.next(4)]
	switch l.next(8) {
	case 1:
		return embed(x, left, right, v)
	case 2:
		return mark(x, uint64(1+l.next(3)), api.Anchor{Id: left, After: l.next(2) == 1}, api.Anchor{Id: right, After: l.next(2) == 1}, "k", v)
	case 3:
		return set(x, uint64(1+l.next(200)), left, "key", v)
	case 4:
		return set(x, 1, right, "m", aMap)
	}
	runes := []rune("aé\U0001F600bcdefg")
	return text(x, left, right, string(runes[l.next(4):][:1+l.next(5)]))
}

// piece: some clocks of one of them, at times with those that go on where it ends.
func (l *life) piece() api.Op {
	i := l.next(len(l.ops))
	o := l.ops[i]
	for i+1 < len(l.ops) && ops.Fits(o, l.ops[i+1]) && l.next(2) == 1 {
		i++
		o = ops.Join([]api.Op{o, l.ops[i]})[0]
	}
	from := l.next(ops.Len(o))
	to := from + 1 + l.next(ops.Len(o)-from)
	o, _ = ops.Cut(o, from, to)
	return o
}

// update: some pieces, some turns; wrong ones among them, if they may be.
func (l *life) update(wrong bool) api.Update {
	var u api.Update
	for n := l.next(6); n > 0 && len(l.ops) > 0; n-- {
		u.Ops = append(u.Ops, l.piece())
	}
	for range l.next(5) {
		from := uint64(1 + l.next(5))
		u.Turns = append(u.Turns, turn(uint64(1+l.next(2)), from, from+uint64(1+l.next(3)), uint64(1+l.next(3))))
	}
	if wrong && l.next(3) == 1 {
		u.Ops = append(u.Ops, wrongOps()[l.next(len(wrongOps()))])
		u.Turns = append(u.Turns, wrongTurns()[l.next(len(wrongTurns()))])
		l.shuffle(u)
	}
	return u
}

func (l *life) shuffle(u api.Update) {
	for i := range u.Ops {
		k := l.next(i + 1)
		u.Ops[i], u.Ops[k] = u.Ops[k], u.Ops[i]
	}
	for i := range u.Turns {
		k := l.next(i + 1)
		u.Turns[i], u.Turns[k] = u.Turns[k], u.Turns[i]
	}
}

func (l *life) updates(wrong bool) []api.Update {
	var out []api.Update
	for range l.next(5) {
		out = append(out, l.update(wrong))
	}
	return out
}

// drawn: a row of numbers by chance.
func drawn(seed int64) func(int) int { return rand.New(rand.NewSource(seed)).Intn }

// given: a row of numbers from bytes; behind them noughts.
func given(b []byte) func(int) int {
	return func(n int) int {
		if len(b) == 0 {
			return 0
		}
		x := int(b[0])
		b = b[1:]
		return x % n
	}
}

// tryForms: P16.1 and P16.2 of some updates, by the model.
func tryForms(t *testing.T, next func(int) int) {
	t.Helper()
	l := newLife(next)
	list := l.updates(true)
	for i, u := range list {
		checkForm(t, u)
		for _, other := range list[:i] {
			if got := same(t, u, other); got != modelSame(u, other) {
				t.Fatalf("P16.1: Same of %v and %v: %t", short(u), short(other), got)
			}
		}
		other := copyOf(u)
		l.shuffle(other)
		if got := same(t, u, other); got != modelSame(u, other) {
			t.Fatalf("P16.1: Same of %v and %v: %t", short(u), short(other), got)
		}
	}
	if got, want := merge(t, list...), modelMerge(list); !exact(got, want) {
		t.Fatalf("P16.1: Merge of %v: %v, not %v", list, short(got), short(want))
	}
	slices.Reverse(list)
	checkForm(t, merge(t, list...))
}

// checkForm: what Clean, Empty, Same, Write and Read say of an update.
func checkForm(t *testing.T, u api.Update) {
	t.Helper()
	want := modelClean(u)
	if got := clean(t, u); !exact(got, want) {
		t.Fatalf("P16.1: Clean of %v: %v, not %v", short(u), short(got), short(want))
	}
	if got := empty(t, u); got != (len(want.Ops)+len(want.Turns) == 0) {
		t.Fatalf("P16.1: Empty of %v: %t", short(u), got)
	}
	if same(t, u, want) != modelSame(u, want) || !same(t, u, u) {
		t.Fatalf("P16.1: Same of %v, and clean: %v: %t", short(u), short(want), !modelSame(u, want))
	}
	b, e := write(t, u)
	model, errno := modelWrite(u)
	if !bytes.Equal(b, model) || e != errno {
		t.Fatalf("P16.2: Write of %v: %x, %v, not %x, %v", short(u), b, e, model, errno)
	}
	if e == api.OK {
		checkRead(t, b, want)
	}
}

// checkRead: the bytes must be this update's.
func checkRead(t *testing.T, b []byte, want api.Update) {
	t.Helper()
	if got, e := read(t, b); e != api.OK || !exact(got, want) {
		t.Fatalf("P16.2: Read of %x: %v, %v, not %v", b[:min(len(b), 200)], short(got), e, short(want))
	}
}

// checkRefused: the bytes must be no update's.
func checkRefused(t *testing.T, what string, b []byte) {
	t.Helper()
	if got, e := read(t, b); e != api.ErrUpdateForm || len(got.Ops)+len(got.Turns) > 0 {
		t.Errorf("P16.2: %s: Read of %x: %v, %v", what, b[:min(len(b), 200)], short(got), e)
	}
}

// checkBytes: Read of any bytes, by the model. What is read must be what Write wrote of some update.
func checkBytes(t *testing.T, b []byte) {
	t.Helper()
	want, from, errno := modelRead(b)
	if errno != api.OK {
		checkRefused(t, "by the model", b)
		return
	}
	checkRead(t, b, want)
	if again, e := write(t, up(from...)); e != api.OK || !bytes.Equal(again, modelBytes(up(want.Ops...))) {
		t.Fatalf("P16.2: Write of what %x is of: %x, %v", b, again, e)
	}
}

func TestP16_1And2ByTheModel(t *testing.T) {
	for seed := range int64(3000) {
		tryForms(t, drawn(seed))
	}
}

func FuzzP16_1And2ByTheModel(f *testing.F) {
	f.Add([]byte{})
	for seed := range int64(8) {
		b := make([]byte, 200)
		rand.New(rand.NewSource(seed)).Read(b)
		f.Add(b)
	}
	f.Fuzz(func(t *testing.T, b []byte) { tryForms(t, given(b)) })
}

// TestP16_2ReadOfBrokenBytes: right bytes with some of them changed, left out, doubled.
func TestP16_2ReadOfBrokenBytes(t *testing.T) {
	for seed := range int64(6000) {
		next := drawn(seed)
		b := modelBytes(modelMerge(newLife(next).updates(false)))
		for range 1 + next(3) {
			from := next(len(b) + 1)
			to := from + next(min(len(b)-from, 12)+1)
			switch next(4) {
			case 0:
				b = slices.Delete(slices.Clone(b), from, to)
			case 1:
				b = slices.Insert(slices.Clone(b), from, b[from:to]...)
			default:
				if from < len(b) {
					b[from] = byte(oneOf(next, int(b[from])+1, int(b[from])-1, int(b[from])^0x80, next(256), 0, 1))
				}
			}
		}
		checkBytes(t, b)
	}
}

func oneOf[T any](next func(int) int, l ...T) T { return l[next(len(l))] }

func FuzzP16_2Read(f *testing.F) {
	f.Add([]byte{0x51, 0, 0})
	f.Add(modelBytes(api.Update{Ops: each()[:60], Turns: []api.Turn{turn(1, 2, 3, 300), turn(2, 1, top+1, top)}}))
	for seed := range int64(20) {
		f.Add(modelBytes(modelMerge(newLife(drawn(seed)).updates(false))))
	}
	f.Fuzz(func(t *testing.T, b []byte) { checkBytes(t, b) })
}
