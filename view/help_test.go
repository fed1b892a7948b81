package view_test

import (
	"math"
	"slices"
	"strconv"
	"testing"

	"quire/api"
	"quire/view"
)

// theNaN: the bits of the one NaN that is ever answered.
const theNaN = 0x7FF8000000000000

var null, aMap = api.Value{}, api.Value{Kind: api.ValMap}

var minusZero = math.Copysign(0, -1)

func boolean(n int64) api.Value { return api.Value{Kind: api.ValBool, N: n} }

func integer(n int64) api.Value { return api.Value{Kind: api.ValInt, N: n} }

func float(f float64) api.Value { return api.Value{Kind: api.ValFloat, F: f} }

func floatOf(bits uint64) api.Value { return float(math.Float64frombits(bits)) }

func words(s string) api.Value { return api.Value{Kind: api.ValText, S: s} }

func mark(key string, v api.Value) api.Mark { return api.Mark{Key: key, V: v} }

var bold, not, high = mark("bold", boolean(1)), mark("bold", boolean(0)), mark("high", integer(2))

func text(s string, l ...api.Mark) api.Run { return api.Run{Text: s, Marks: l} }

func embed(v api.Value, l ...api.Mark) api.Run { return api.Run{Embed: true, V: v, Marks: l} }

func entry(key string, v api.Value, kids ...api.Entry) api.Entry {
	return api.Entry{Key: key, V: v, Kids: kids}
}

// list: runs; none: nil.
func list(l ...api.Run) []api.Run { return l }

func looks(l ...api.Run) api.View { return api.View{Runs: l} }

func mapped(l ...api.Entry) api.View { return api.View{Map: l} }

// nans: the bits of NaNs: quiet and signalling ones, of both signs.
func nans() []uint64 {
	return []uint64{theNaN, theNaN + 1, 0x7FF0000000000001, 0x7FFFFFFFFFFFFFFF, 0xFFF8000000000000, 0xFFF0000000000001}
}

// wrongTexts: what isn't right UTF-8.
func wrongTexts() []string {
	return []string{"\xFF", "a\x80", "\xC3", "\xA9", "\xE2\x82", "\xC0\x80", "\xED\xA0\x80", "\xF4\x90\x80\x80"}
}

func alike(a, b api.Value) bool {
	return a.Kind == b.Kind && a.N == b.N && math.Float64bits(a.F) == math.Float64bits(b.F) && a.S == b.S
}

func exactMark(a, b api.Mark) bool { return a.Key == b.Key && alike(a.V, b.V) }

// exactRun: whether a and b are alike to the last bit.
func exactRun(a, b api.Run) bool {
	return a.Text == b.Text && a.Embed == b.Embed && alike(a.V, b.V) && slices.EqualFunc(a.Marks, b.Marks, exactMark)
}

func exactRuns(a, b []api.Run) bool { return slices.EqualFunc(a, b, exactRun) }

func exactEntry(a, b api.Entry) bool {
	return a.Key == b.Key && alike(a.V, b.V) && slices.EqualFunc(a.Kids, b.Kids, exactEntry)
}

// roomy: l and spare room behind it, filled with others.
func roomy[T any](l []T, spare T) []T { return append(slices.Clone(l), spare, spare)[:len(l)] }

// whole: l and its spare room.
func whole[T any](l []T) []T { return l[:cap(l)] }

// handedRuns: l in memory of its own, all lists of it with spare room behind them.
func handedRuns(l []api.Run) []api.Run {
	out := roomy(l, text("spare", bold))
	for i := range out {
		out[i].Marks = roomy(out[i].Marks, mark("spare", integer(7)))
	}
	return out
}

func handedEntries(l []api.Entry) []api.Entry {
	out := roomy(l, entry("spare", integer(8)))
	for i := range out {
		out[i].Kids = handedEntries(out[i].Kids)
	}
	return out
}

// checkLeft: a list that handedRuns made of was is as it was, spare room and all; whatever is laid there afterwards must say nothing.
func checkLeft(t *testing.T, l, was []api.Run) {
	t.Helper()
	fresh := handedRuns(was)
	left := exactRuns(whole(l), whole(fresh))
	for i := range l {
		left = left && slices.EqualFunc(whole(l[i].Marks), whole(fresh[i].Marks), exactMark)
	}
	if !left {
		t.Fatalf("what was handed in has changed: %v, not %v", whole(l), whole(fresh))
	}
	for i := range l {
		for k := range whole(l[i].Marks) {
			whole(l[i].Marks)[k] = mark("other", integer(9))
		}
	}
	for i := range whole(l) {
		whole(l)[i] = text("other")
	}
}

func entriesLeft(l, was []api.Entry) bool {
	if !slices.EqualFunc(whole(l), whole(was), exactEntry) {
		return false
	}
	for i := range l {
		if !entriesLeft(l[i].Kids, was[i].Kids) {
			return false
		}
	}
	return true
}

// ask: what a call answers of a view that lies in memory of its own, which it must leave as it was.
func ask[T any](t *testing.T, v api.View, call func(api.View) T) T {
	t.Helper()
	told := api.View{Runs: handedRuns(v.Runs), Map: handedEntries(v.Map)}
	got := call(told)
	if !entriesLeft(told.Map, handedEntries(v.Map)) {
		t.Fatalf("what was handed in has changed: %v, not %v", told.Map, v.Map)
	}
	checkLeft(t, told.Runs, v.Runs)
	return got
}

// copied: an answer in other memory; no two lists of the answer itself may share any.
func copied(t *testing.T, l []api.Run) []api.Run {
	t.Helper()
	out := slices.Clone(l)
	for i := range out {
		out[i].Marks = slices.Clone(l[i].Marks)
	}
	for i := range l {
		for k := range whole(l[i].Marks) {
			whole(l[i].Marks)[k].Key = strconv.Itoa(i)
		}
	}
	for i := range l {
		for _, m := range whole(l[i].Marks) {
			if m.Key != strconv.Itoa(i) {
				t.Fatalf("two lists of an answer share memory: %v", out)
			}
		}
	}
	return out
}

func clean(t *testing.T, l []api.Run) []api.Run {
	t.Helper()
	told := handedRuns(l)
	got := view.Clean(told)
	checkLeft(t, told, l)
	return copied(t, got)
}

func cut(t *testing.T, l []api.Run, from, to int) []api.Run {
	t.Helper()
	told := handedRuns(l)
	got := view.Cut(told, from, to)
	checkLeft(t, told, l)
	return copied(t, got)
}

func patch(t *testing.T, a []api.Run, at, n int, l []api.Run) []api.Run {
	t.Helper()
	toldA, toldL := handedRuns(a), handedRuns(l)
	got := view.Patch(toldA, at, n, toldL)
	checkLeft(t, toldA, a)
	checkLeft(t, toldL, l)
	return copied(t, got)
}

func diff(t *testing.T, a, b []api.Run) (int, int, []api.Run) {
	t.Helper()
	toldA, toldB := handedRuns(a), handedRuns(b)
	at, n, got := view.Diff(toldA, toldB)
	checkLeft(t, toldA, a)
	checkLeft(t, toldB, b)
	return at, n, copied(t, got)
}
