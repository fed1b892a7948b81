package update_test

import (
	"bytes"
	"fmt"
	"math"
	"slices"
	"strings"
	"testing"

	"quire/api"
)

// checkWritten: these bytes must be what Write writes of u, and their update u, clean.
func checkWritten(t *testing.T, what string, u api.Update, want []byte) {
	t.Helper()
	if got, e := write(t, u); e != api.OK || !bytes.Equal(got, want) {
		t.Errorf("%s: %x, %v, not %x", what, got, e, want)
		return
	}
	got, e := read(t, want)
	if e != api.OK || !exact(got, modelClean(u)) {
		t.Errorf("%s: read back: %v, %v", what, short(got), e)
	}
	if same(t, got, u) != modelSame(got, u) {
		t.Errorf("%s: read back, Same is %t", what, !modelSame(got, u))
	}
}

// checkUnwritten: there must be no bytes, but this error.
func checkUnwritten(t *testing.T, what string, u api.Update, want api.Errno) {
	t.Helper()
	if got, e := write(t, u); e != want || len(got) > 0 {
		t.Errorf("%s: %x, %v, not %v", what, got[:min(len(got), 40)], e, want)
	}
}

// opsOf, turnsOf: the bytes of an update with these bytes of so many operations, or turns, alone.
func opsOf(n int, parts ...any) []byte {
	return raw(append(append([]any{byte(0x51), n}, parts...), 0)...)
}

func turnsOf(n int, parts ...any) []byte {
	return raw(append([]any{byte(0x51), 0, n}, parts...)...)
}

// Kinds, and the byte 0 and 1, as parts of bytes.
const (
	no, yes        = byte(0), byte(1)
	kText, kEmbed  = byte(1), byte(2)
	kMark, kSet    = byte(3), byte(4)
	vNull, vInt    = byte(0), byte(2)
	vFloat, vWords = byte(3), byte(4)
)

// theLast: the bytes of MaxId.
var theLast = append(bytes.Repeat([]byte{0xFF}, 7), 0x0F)

func TestP16_2Bytes(t *testing.T) {
	for _, x := range []struct {
		what string
		u    api.Update
		want []byte
	}{
		{"the chapter's: the empty update", api.Update{}, []byte{0x51, 0, 0}},
		{"empty lists", api.Update{Ops: []api.Op{}, Turns: []api.Turn{}}, []byte{0x51, 0, 0}},
		{"a text", up(text(id(1, 2), id(3, 4), id(5, 6), "ab")), opsOf(1, []byte{1, 1, 2, 3, 4, 5, 6, 2, 'a', 'b'})},
		{"a text without origins", up(text(id(1, 2), none, none, "é")), opsOf(1, []byte{1, 1, 2, 0, 0, 0, 0, 2, 0xC3, 0xA9})},
		{"a text whose numbers are long", up(text(id(300, 1<<14), id(top, top), none, strings.Repeat("x", 130))), opsOf(1, []byte{1, 0xAC, 2, 0x80, 0x80, 1}, theLast, theLast, 0, 0, []byte{0x82, 1}, bytes.Repeat([]byte{'x'}, 130))},
		{"an embed", up(embed(id(1, 2), id(3, 4), id(5, 6), integer(-1))), opsOf(1, []byte{2, 1, 2, 3, 4, 5, 6, 2, 1})},
		{"an embed with null", up(embed(id(1, 2), none, none, null)), opsOf(1, []byte{2, 1, 2, 0, 0, 0, 0, 0})},
		{"a mark", up(mark(id(1, 2), 300, behind(id(3, 4)), ahead(id(5, 6)), "kl", boolean(1))), opsOf(1, []byte{3, 1, 2, 0xAC, 2, 3, 4, 1, 5, 6, 0, 2, 'k', 'l', 1, 1})},
		{"a mark, the other way round", up(mark(id(1, 2), 1, ahead(id(3, 4)), behind(id(5, 6)), "k", boolean(0))), opsOf(1, []byte{3, 1, 2, 1, 3, 4, 0, 5, 6, 1, 1, 'k', 1, 0})},
		{"a mark over all", up(mark(id(1, 2), top, begin, end, "é", words("x"))), opsOf(1, []byte{3, 1, 2}, theLast, []byte{0, 0, 0, 0, 0, 1, 2, 0xC3, 0xA9, 4, 1, 'x'})},
		{"a mark over nothing", up(mark(id(1, 2), 1, end, begin, "k", null)), opsOf(1, []byte{3, 1, 2, 1, 0, 0, 1, 0, 0, 0, 1, 'k', 0})},
		{"a set", up(set(id(1, 2), 7, id(3, 4), "k", aMap)), opsOf(1, []byte{4, 1, 2, 7, 3, 4, 1, 'k', 5})},
		{"a set of the root", up(set(id(1, 2), 128, none, "k", words(""))), opsOf(1, []byte{4, 1, 2, 0x80, 1, 0, 0, 1, 'k', 4, 0})},
		{"float 1", up(embed(id(1, 1), none, none, float(1))), opsOf(1, []byte{2, 1, 1, 0, 0, 0, 0, 3, 0x3F, 0xF0, 0, 0, 0, 0, 0, 0})},
		{"nought", up(set(id(1, 1), 1, none, "k", float(0))), opsOf(1, []byte{4, 1, 1, 1, 0, 0, 1, 'k', 3, 0, 0, 0, 0, 0, 0, 0, 0})},
		{"-0", up(set(id(1, 1), 1, none, "k", floatOf(1<<63))), opsOf(1, []byte{4, 1, 1, 1, 0, 0, 1, 'k', 3, 0x80, 0, 0, 0, 0, 0, 0, 0})},
		{"NaN", up(embed(id(1, 1), none, none, floatOf(theNaN))), opsOf(1, []byte{2, 1, 1, 0, 0, 0, 0, 3, 0x7F, 0xF8, 0, 0, 0, 0, 0, 0})},
		{"NaN of other bits", up(mark(id(1, 1), 1, begin, end, "k", floatOf(math.MaxUint64))), opsOf(1, []byte{3, 1, 1, 1, 0, 0, 0, 0, 0, 1, 1, 'k', 3, 0x7F, 0xF8, 0, 0, 0, 0, 0, 0})},
		{"-infinity", up(embed(id(1, 1), none, none, float(math.Inf(-1)))), opsOf(1, []byte{2, 1, 1, 0, 0, 0, 0, 3, 0xFF, 0xF0, 0, 0, 0, 0, 0, 0})},
		{"several, by ids", up(at(2, 1, "c"), at(1, 3, "b"), at(1, 1, "a")), opsOf(3, []byte{1, 1, 1, 0, 0, 0, 0, 1, 'a'}, []byte{1, 1, 3, 1, 2, 0, 0, 1, 'b'}, []byte{1, 2, 1, 0, 0, 0, 0, 1, 'c'})},
		{"texts that go on", up(at(1, 2, "b"), at(1, 1, "a")), opsOf(1, []byte{1, 1, 1, 0, 0, 0, 0, 2, 'a', 'b'})},
		{"doubled ones", up(at(1, 1, "a"), at(1, 1, "a")), opsOf(1, []byte{1, 1, 1, 0, 0, 0, 0, 1, 'a'})},
		{"a turn", turning(turn(1, 2, 3, 300)), turnsOf(1, []byte{1, 2, 3, 0xAC, 2})},
		{"a turn at the edges", turning(turn(top, 1, top+1, top)), turnsOf(1, theLast, 1, uint64(top+1), theLast)},
		{"turns out of order, wrong ones, some that touch", turning(turn(2, 1, 2, 1), turn(1, 3, 4, 1), turn(0, 1, 2, 1), turn(1, 1, 3, 1), turn(1, 4, 5, 2)), turnsOf(3, []byte{1, 1, 4, 1, 1, 4, 5, 2, 2, 1, 2, 1})},
		{"both", both(up(at(1, 1, "a")), turn(1, 1, 2, 1)), []byte{0x51, 1, 1, 1, 1, 0, 0, 0, 0, 1, 'a', 1, 1, 1, 2, 1}},
	} {
		checkWritten(t, x.what, x.u, x.want)
	}
}

// TestP16_2EachField: an operation of each kind with each of its fields at its edges, alone and all together; turns, too.
func TestP16_2EachField(t *testing.T) {
	turns := []api.Turn{turn(1, 1, 2, 1), turn(1, 2, 3, 2), turn(1, 5, 128, 127), turn(1, 128, 129, 128), turn(127, 1, top+1, top), turn(128, top, top+1, 1), turn(top, 1, 300, 1<<32)}
	for _, o := range each() {
		checkWritten(t, fmt.Sprint("alone: ", short(up(o))), up(o), modelBytes(up(o)))
	}
	for _, x := range turns {
		checkWritten(t, fmt.Sprint("alone: ", x), turning(x), modelBytes(turning(x)))
	}
	u := both(up(each()...), turns...)
	want := modelBytes(u)
	checkWritten(t, "all", u, want)
	slices.Reverse(u.Ops)
	slices.Reverse(u.Turns)
	checkWritten(t, "all, out of order", u, want)
}

// TestP16_2UnlikeOnesHaveUnlikeBytes: of each pair that differs in one field alone.
func TestP16_2UnlikeOnesHaveUnlikeBytes(t *testing.T) {
	for _, x := range unlike() {
		a, _ := write(t, x[0])
		b, _ := write(t, x[1])
		if bytes.Equal(a, b) {
			t.Errorf("%v and %v: %x", x[0], x[1], a)
		}
	}
}

func TestP16_2WriteRefuses(t *testing.T) {
	many, turns := make([]api.Op, api.MaxOps+1), make([]api.Turn, api.MaxOps+1)
	for i := range many {
		many[i] = at(1, 1, "a")
		turns[i] = turn(1, 1, 2, 1)
	}
	for _, o := range wrongOps() {
		for place := range 3 {
			u := up(slices.Insert([]api.Op{at(1, 1, "abc"), at(2, 1, "x")}, place, o)...)
			checkUnwritten(t, "a wrong operation", u, api.ErrOpForm)
			checkUnwritten(t, "a wrong operation, too many turns", both(u, turns...), api.ErrOpForm)
		}
		checkUnwritten(t, "a wrong operation behind too many", up(append(slices.Clone(many), o)...), api.ErrOpForm)
		checkUnwritten(t, "too many behind a wrong operation", up(append([]api.Op{o}, many...)...), api.ErrOpForm)
	}
	checkUnwritten(t, "too many operations, all of one id", up(many...), api.ErrUpdateForm)
	checkUnwritten(t, "too many turns, all of one id", turning(turns...), api.ErrUpdateForm)
	checkUnwritten(t, "too many turns, all wrong", turning(make([]api.Turn, api.MaxOps+1)...), api.ErrUpdateForm)
	checkUnwritten(t, "too many of both", both(up(many...), turns...), api.ErrUpdateForm)
	checkWritten(t, "as many of both as may be, all of one id", both(up(many[1:]...), turns[1:]...), modelBytes(both(up(many[0]), turns[0])))
	checkWritten(t, "as many turns as may be, all wrong", turning(make([]api.Turn, api.MaxOps)...), []byte{0x51, 0, 0})
}

// crowd: so many operations and turns that neither join nor touch.
func crowd(n int) (u api.Update) {
	for i := range uint64(n) {
		u.Ops = append(u.Ops, embed(id(1+i%3, 1+i/3), none, none, null))
		u.Turns = append(u.Turns, turn(1+i%3, 1+i/3*2, 2+i/3*2, 1+i%2))
	}
	return u
}

func TestP16_2MaxOps(t *testing.T) {
	u, one := crowd(api.MaxOps), crowd(api.MaxOps+1)
	checkWritten(t, "MaxOps of both", u, modelBytes(modelClean(u)))
	checkUnwritten(t, "one operation more", both(up(one.Ops...), u.Turns...), api.ErrUpdateForm)
	checkUnwritten(t, "one turn more", both(up(u.Ops...), one.Turns...), api.ErrUpdateForm)
	one = modelClean(one)
	checkRefused(t, "one operation more", modelBytes(up(one.Ops...)))
	checkRefused(t, "one turn more", modelBytes(turning(one.Turns...)))
}

// filled: an update of just so many bytes: long texts, and the rest in some values.
func filled(n int) api.Update {
	u, long := turning(turn(1, 1, 2, 1)), strings.Repeat("x", full)
	for left := n - 2*full; left > 0; left -= full + 20 {
		u.Ops = append(u.Ops, text(id(uint64(len(u.Ops)+1), 1), none, none, long))
	}
	texts := len(u.Ops)
	for clock := range uint64(8) {
		u.Ops = append(u.Ops, set(id(1<<20, 1+clock), 1, none, "k", words("")))
	}
	left := n - len(modelBytes(u))
	for i := range u.Ops[texts:] {
		k := min(left, 127) // a length above that has two bytes
		if left > 128 {
			k = min(left-1, full)
			left--
		}
		u.Ops[texts+i].V.S = long[:k]
		left -= k
	}
	return u
}

func TestP16_2MaxBytes(t *testing.T) {
	for n := api.MaxBytes - 3; n <= api.MaxBytes+3; n++ {
		u := filled(n)
		b := modelBytes(u)
		if len(b) != n {
			t.Fatalf("the test's own update has %d bytes, not %d", len(b), n)
		}
		if n <= api.MaxBytes {
			checkWritten(t, fmt.Sprint(n, " bytes"), u, b)
			continue
		}
		checkUnwritten(t, fmt.Sprint(n, " bytes"), u, api.ErrUpdateForm)
		checkRefused(t, fmt.Sprint(n, " bytes"), b)
		checkUnwritten(t, "a wrong operation beside too many bytes", up(append(u.Ops, api.Op{})...), api.ErrOpForm)
	}
	many := filled(3 * api.MaxBytes)
	checkUnwritten(t, "far too many bytes", many, api.ErrUpdateForm)
	checkRefused(t, "far too many bytes", modelBytes(many))
	long := at(1, 1, strings.Repeat("\U0001F600", full))
	checkWritten(t, "too many bytes, but of one id", up(slices.Repeat([]api.Op{long}, 100)...), modelBytes(up(long)))
}

// TestP16_2MoreTurnsThanWereTold: MaxOps turns, over and within one another, may be more once they are clean; what is written of them is read back.
func TestP16_2MoreTurnsThanWereTold(t *testing.T) {
	over := turning(turn(1, 1, top+1, 1))
	for i := range uint64(api.MaxOps - 1) {
		over.Turns = append(over.Turns, turn(1, 2*i+2, 2*i+3, 2))
	}
	want := modelClean(over)
	if len(want.Turns) != 2*api.MaxOps-1 {
		t.Fatalf("the test's own turns are %d", len(want.Turns))
	}
	checkWritten(t, "one over many", over, modelBytes(want))
	within := turning()
	for i := range uint64(api.MaxOps) {
		within.Turns = append(within.Turns, turn(1, 1+i, 100000-i, 1+i))
	}
	want = modelClean(within)
	if len(want.Turns) != 2*api.MaxOps-1 {
		t.Fatalf("the test's own turns are %d", len(want.Turns))
	}
	checkWritten(t, "each within the one ahead", within, modelBytes(want))
}

// TestP16_2TurnsThatNeedMore: short rows of turns behind so many others that MaxOps turns just tell them all, or don't.
func TestP16_2TurnsThatNeedMore(t *testing.T) {
	for _, row := range [][]uint64{{1}, {1, 2}, {2, 1}, {1, 2, 1}, {2, 1, 2}, {1, 2, 3}, {3, 2, 1}, {1, 3, 2}, {2, 3, 1, 2}, {1, 2, 1, 2, 1}, {2, 1, 3, 1, 2}, {3, 1, 2, 1, 3}, {1, 3, 2, 3, 1}, {2, 3, 2, 1, 2, 3, 2}, {1, 0, 1}, {1, 2, 0, 2, 1}, {2, 0, 1, 2}, {1, 2, 0, 1, 2, 1}, {5, 4, 5, 3, 5, 2, 5, 1, 5}} {
		var turns []api.Turn
		for i, n := range row {
			if n > 0 {
				turns = append(turns, turn(top, uint64(1+i), uint64(2+i), n))
			}
		}
		needs := modelFewest(turns)
		for more := range 2 {
			var l []api.Turn
			for i := range uint64(api.MaxOps - needs + more) {
				l = append(l, turn(1+i/9000, 1+i%9000*2, 2+i%9000*2, 1))
			}
			b := modelBytes(turning(append(l, turns...)...))
			if more == 0 {
				checkRead(t, b, turning(append(l, turns...)...))
			} else {
				checkRefused(t, fmt.Sprint(row), b)
			}
		}
	}
	var l []api.Turn // of several clients, who could be told together if they were one
	for i := range uint64(api.MaxOps/2 + 1) {
		l = append(l, turn(1+i, 1, 1+i+1, 1), turn(1+i, 1+i+1, 100000, 2))
	}
	checkRefused(t, "of several clients", modelBytes(turning(l...)))
	l = nil // each one of a client of its own, where the one ahead ends
	for i := range uint64(api.MaxOps + 1) {
		l = append(l, turn(1+i, 1+i, 2+i, 1))
	}
	checkRefused(t, "each of another client", modelBytes(turning(l...)))
	checkRead(t, modelBytes(turning(l[1:]...)), turning(l[1:]...))
	checkRead(t, modelBytes(turning(l[:api.MaxOps]...)), turning(l[:api.MaxOps]...))
}

// TestP16_2ReadOfPieces: no beginning of right bytes is right, nor are right ones with anything behind them.
func TestP16_2ReadOfPieces(t *testing.T) {
	u := both(up(at(1, 1, "aé"), embed(id(2, 1), id(1, 1), none, float(1)), mark(id(2, 2), 300, behind(id(1, 1)), end, "key", integer(-1000)), set(id(2, 3), 1, id(9, 9), "k", words("xyz"))), turn(1, 1, 2, 1), turn(300, 1, 301, 2))
	b := modelBytes(u)
	checkRead(t, b, u)
	for n := range b {
		checkRefused(t, fmt.Sprint(n, " bytes of ", len(b)), b[:n])
		checkBytes(t, slices.Delete(slices.Clone(b), n, n+1))
	}
	for _, tail := range [][]byte{{0}, {1}, {0x51}, {0x51, 0, 0}, b, bytes.Repeat([]byte{0}, 1000)} {
		checkRefused(t, "with more behind", slices.Concat(b, tail))
		checkRefused(t, "the empty one, with more behind", slices.Concat([]byte{0x51, 0, 0}, tail))
	}
	for i := range b { // each other byte, one at a time
		for x := range 256 {
			c := slices.Clone(b)
			c[i] = byte(x)
			checkBytes(t, c)
		}
	}
}

func TestP16_2ReadRefuses(t *testing.T) {
	over := uint64(top + 1)
	a := []byte{1, 1, 1, 0, 0, 0, 0, 1, 'a'} // the text {1, 1} "a"
	behindA := raw(kText, 1, 2, 1, 1, 0, 0, "b")
	sets := func(value ...any) []byte { return opsOf(1, append([]any{kSet, 1, 1, 1, 0, 0, "k"}, value...)...) }
	marks := func(parts ...any) []byte { return opsOf(1, append([]any{kMark, 1, 2}, parts...)...) }
	for _, x := range []struct {
		what string
		b    []byte
	}{
		{"no bytes", nil},
		{"the first byte alone", []byte{0x51}},
		{"another first byte", []byte{0x50, 0, 0}},
		{"a first byte 0", []byte{0, 0, 0}},
		{"a first byte with its highest bit", []byte{0xD1, 0, 0}},
		{"a number of operations in two bytes", []byte{0x51, 0x80, 0, 0}},
		{"a number of turns in two bytes", []byte{0x51, 0, 0x80, 0}},
		{"a client in two bytes", opsOf(1, kText, []byte{0x81, 0}, 1, 0, 0, 0, 0, "a")},
		{"a length in two bytes", opsOf(1, kText, 1, 1, 0, 0, 0, 0, []byte{0x81, 0}, byte('a'))},
		{"a turn in two bytes", turnsOf(1, 1, 1, 2, []byte{0x81, 0})},
		{"a number without an end", append([]byte{0x51, 0, 1}, bytes.Repeat([]byte{0xFF}, 20)...)},
		{"fewer operations than there are", opsOf(1, a, raw(kText, 1, 3, 0, 0, 0, 0, "b"))},
		{"more operations than there are", opsOf(2, a)},
		{"far more operations than there are", raw(byte(0x51), uint64(math.MaxUint64), a)},
		{"MaxOps operations, none there", raw(byte(0x51), api.MaxOps)},
		{"one more than MaxOps operations, none there", raw(byte(0x51), api.MaxOps+1)},
		{"fewer turns than there are", turnsOf(1, 1, 1, 2, 1, 2, 1, 2, 1)},
		{"more turns than there are", turnsOf(2, 1, 1, 2, 1)},
		{"far more turns than there are", raw(byte(0x51), 0, uint64(math.MaxUint64), 1, 1, 2, 1)},
		{"2^63 turns, none there", raw(byte(0x51), 0, uint64(1<<63))},

		{"a kind 0", opsOf(1, no, 1, 1)},
		{"a kind 0, as a text", opsOf(1, no, 1, 1, 0, 0, 0, 0, "a")},
		{"a kind 5", opsOf(1, byte(5), 1, 1)},
		{"a kind 255", opsOf(1, byte(255), 1, 1, 0, 0, 0, 0, "a")},
		{"client 0", opsOf(1, kText, 0, 1, 0, 0, 0, 0, "a")},
		{"clock 0", opsOf(1, kText, 1, 0, 0, 0, 0, 0, "a")},
		{"client MaxId + 1", opsOf(1, kText, over, 1, 0, 0, 0, 0, "a")},
		{"clock MaxId + 1", opsOf(1, kText, 1, over, 0, 0, 0, 0, "a")},
		{"a client of 64 bits", opsOf(1, kText, uint64(math.MaxUint64), 1, 0, 0, 0, 0, "a")},
		{"a last clock MaxId + 1", opsOf(1, kText, 1, uint64(top), 0, 0, 0, 0, "ab")},
		{"a Left's client alone", opsOf(1, kText, 1, 1, 5, 0, 0, 0, "a")},
		{"a Right's clock alone", opsOf(1, kText, 1, 1, 0, 0, 0, 5, "a")},
		{"a Left above MaxId", opsOf(1, kEmbed, 1, 1, 5, over, 0, 0, vNull)},
		{"a Left that is its own", opsOf(1, kText, 1, 1, 1, 1, 0, 0, "ab")},
		{"a Left that is its own, of one rune", opsOf(1, kText, 1, 1, 1, 1, 0, 0, "a")},
		{"a Right that is its own", opsOf(1, kText, 1, 1, 0, 0, 1, 2, "ab")},
		{"an embed's Left that is its own", opsOf(1, kEmbed, 1, 1, 1, 1, 0, 0, vNull)},
		{"an empty text", opsOf(1, kText, 1, 1, 0, 0, 0, 0, "")},
		{"a text of MaxText + 1 runes", opsOf(1, kText, 1, 1, 0, 0, 0, 0, strings.Repeat("x", full+1))},
		{"a text that isn't right", opsOf(1, kText, 1, 1, 0, 0, 0, 0, "a\xFF")},
		{"a text's length above what is there", opsOf(1, kText, 1, 1, 0, 0, 0, 0, 9, byte('a'))},
		{"a text's length of 64 bits", opsOf(1, kText, 1, 1, 0, 0, 0, 0, uint64(math.MaxUint64), byte('a'))},
		{"an embed that is a map", opsOf(1, kEmbed, 1, 1, 0, 0, 0, 0, byte(5))},
		{"an embed without a value", opsOf(1, kEmbed, 1, 1, 0, 0, 0, 0)[:9]},

		{"a mark's stamp 0", marks(0, 0, 0, no, 0, 0, yes, "k", vNull)},
		{"a mark's stamp MaxId + 1", marks(over, 0, 0, no, 0, 0, yes, "k", vNull)},
		{"a From's After 2", marks(1, 0, 0, byte(2), 0, 0, yes, "k", vNull)},
		{"a To's After 2", marks(1, 0, 0, no, 0, 0, byte(2), "k", vNull)},
		{"a To's After 255", marks(1, 0, 0, no, 0, 0, byte(255), "k", vNull)},
		{"a From that is its own", marks(1, 1, 2, no, 0, 0, yes, "k", vNull)},
		{"a To that isn't right", marks(1, 0, 0, no, 7, 0, yes, "k", vNull)},
		{"a mark's empty key", marks(1, 0, 0, no, 0, 0, yes, "", vNull)},
		{"a mark's key of MaxKey + 1 bytes", marks(1, 0, 0, no, 0, 0, yes, strings.Repeat("k", api.MaxKey+1), vNull)},
		{"a mark's key that isn't right", marks(1, 0, 0, no, 0, 0, yes, "\x80", vNull)},
		{"a mark that is a map", marks(1, 0, 0, no, 0, 0, yes, "k", byte(5))},
		{"a set's stamp 0", opsOf(1, kSet, 1, 1, 0, 0, 0, "k", vNull)},
		{"a set's stamp MaxId + 1", opsOf(1, kSet, 1, 1, over, 0, 0, "k", vNull)},
		{"a Parent that is its own", opsOf(1, kSet, 1, 1, 1, 1, 1, "k", vNull)},
		{"a Parent's client alone", opsOf(1, kSet, 1, 1, 1, 5, 0, "k", vNull)},
		{"a set's empty key", opsOf(1, kSet, 1, 1, 1, 0, 0, "", vNull)},

		{"a value of no kind", sets(byte(6))},
		{"a bool 2", sets(yes, byte(2))},
		{"an int in two bytes", sets(vInt, []byte{0x82, 0})},
		{"an int of 65 bits", sets(vInt, bytes.Repeat([]byte{0xFF}, 9), byte(2))},
		{"NaN of other bits", sets(vFloat, []byte{0x7F, 0xF8, 0, 0, 0, 0, 0, 1})},
		{"NaN below 0", sets(vFloat, []byte{0xFF, 0xF8, 0, 0, 0, 0, 0, 0})},
		{"NaN that signals", sets(vFloat, []byte{0x7F, 0xF0, 0, 0, 0, 0, 0, 1})},
		{"a float of 7 bytes", sets(vFloat, []byte{0, 0, 0, 0, 0, 0})},
		{"a text value that isn't right", sets(vWords, "\xC3")},
		{"a text value of MaxString + 1 bytes", sets(vWords, strings.Repeat("x", api.MaxString+1))},

		{"operations out of order", opsOf(2, raw(kText, 2, 1, 0, 0, 0, 0, "b"), a)},
		{"clocks out of order", opsOf(2, raw(kText, 1, 3, 0, 0, 0, 0, "b"), a)},
		{"one twice", opsOf(2, a, a)},
		{"two of one id", opsOf(2, a, raw(kText, 1, 1, 0, 0, 0, 0, "ab"))},
		{"texts that join", opsOf(2, a, behindA)},
		{"texts that join, of three the last two", opsOf(3, a, raw(kText, 1, 2, 0, 0, 0, 0, "b"), raw(kText, 1, 3, 1, 2, 0, 0, "c"))},
		{"texts that join, a third one on their right", opsOf(3, a, behindA, raw(kText, 1, 3, 1, 2, 1, 1, "c"))},
		{"a long text cut too early", opsOf(2, raw(kText, 1, 1, 0, 0, 0, 0, strings.Repeat("x", full-1)), raw(kText, 1, full, 1, full-1, 0, 0, "yz"))},

		{"a turn's client 0", turnsOf(1, 0, 1, 2, 1)},
		{"a turn's client MaxId + 1", turnsOf(1, over, 1, 2, 1)},
		{"a turn from 0", turnsOf(1, 1, 0, 2, 1)},
		{"a turn of nothing", turnsOf(1, 1, 2, 2, 1)},
		{"a turn backwards", turnsOf(1, 1, 3, 2, 1)},
		{"a turn to MaxId + 2", turnsOf(1, 1, 1, over+1, 1)},
		{"a turn of MaxId + 1 alone", turnsOf(1, 1, over, over+1, 1)},
		{"a turn 0", turnsOf(1, 1, 1, 2, 0)},
		{"a turn MaxId + 1", turnsOf(1, 1, 1, 2, over)},
		{"turns out of order", turnsOf(2, 1, 3, 4, 1, 1, 1, 2, 1)},
		{"turns' clients out of order", turnsOf(2, 2, 1, 2, 1, 1, 1, 2, 1)},
		{"turns that would be joined", turnsOf(2, 1, 1, 2, 1, 1, 2, 3, 1)},
		{"turns that overlap", turnsOf(2, 1, 1, 3, 1, 1, 2, 4, 2)},
		{"a turn twice", turnsOf(2, 1, 1, 2, 1, 1, 1, 2, 1)},
		{"a wrong turn behind right operations", raw(byte(0x51), 1, a, 1, 1, 1, 2, 0)},
	} {
		checkRefused(t, x.what, x.b)
		if _, _, e := modelRead(x.b); e == api.OK {
			t.Errorf("%s: the model reads it", x.what)
		}
	}
}

// TestP16_2ReadOfRightOnes: bytes that are nearly wrong.
func TestP16_2ReadOfRightOnes(t *testing.T) {
	long := strings.Repeat("x", full)
	for _, x := range []struct {
		what string
		b    []byte
		want api.Update
	}{
		{"no operations, no turns", []byte{0x51, 0, 0}, api.Update{}},
		{"texts with other Rights", opsOf(2, []byte{1, 1, 1, 0, 0, 0, 0, 1, 'a'}, []byte{1, 1, 2, 1, 1, 5, 5, 1, 'b'}), up(at(1, 1, "a"), text(id(1, 2), id(1, 1), id(5, 5), "b"))},
		{"texts with other Lefts", opsOf(2, []byte{1, 1, 1, 0, 0, 0, 0, 1, 'a'}, []byte{1, 1, 2, 0, 0, 0, 0, 1, 'b'}), up(at(1, 1, "a"), text(id(1, 2), none, none, "b"))},
		{"texts with a gap", opsOf(2, []byte{1, 1, 1, 0, 0, 0, 0, 1, 'a'}, []byte{1, 1, 3, 1, 2, 0, 0, 1, 'b'}), up(at(1, 1, "a"), at(1, 3, "b"))},
		{"a full text, and one that goes on", opsOf(2, kText, 1, 1, 0, 0, 0, 0, long, kText, 1, full+1, 1, full, 0, 0, "y"), up(at(1, 1, long), at(1, full+1, "y"))},
		{"texts that overlap", opsOf(2, []byte{1, 1, 1, 0, 0, 0, 0, 2, 'a', 'b'}, []byte{1, 1, 2, 1, 1, 0, 0, 2, 'b', 'c'}), up(at(1, 1, "ab"), at(1, 2, "bc"))},
		{"the last id of all", opsOf(1, kText, uint64(top), uint64(top), 0, 0, 0, 0, "a"), up(text(id(top, top), none, none, "a"))},
		{"a Left that is its client's", opsOf(1, kText, 1, 5, 1, 9, 0, 0, "a"), up(text(id(1, 5), id(1, 9), none, "a"))},
		{"turns that touch, unlike", turnsOf(2, 1, 1, 2, 1, 1, 2, 3, 2), turning(turn(1, 1, 2, 1), turn(1, 2, 3, 2))},
		{"turns of all ids", turnsOf(1, uint64(top), 1, uint64(top+1), uint64(top)), turning(turn(top, 1, top+1, top))},
	} {
		checkRead(t, x.b, x.want)
		checkBytes(t, x.b)
	}
}
