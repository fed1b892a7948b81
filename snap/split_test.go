package snap_test

import (
	"fmt"
	"math"
	"math/rand"
	"slices"
	"strings"
	"testing"

	"quire/api"
	"quire/doc"
	"quire/ops"
	"quire/snap"
	"quire/update"
)

// once: by the chapter's words, what the parts of u tell together: Clean of u; where its operations overlap, each clock once.
func once(u api.Update) api.Update {
	c := update.Clean(u)
	seen := map[api.Id]bool{}
	out := turning(c.Turns...)
	for _, o := range c.Ops {
		from := 0
		for n := range ops.Len(o) {
			x := id(o.Id.Client, o.Id.Clock+uint64(n))
			if seen[x] {
				from = n + 1
			}
			seen[x] = true
		}
		if rest, some := ops.Cut(o, from, ops.Len(o)); some {
			out.Ops = append(out.Ops, rest)
		}
	}
	return update.Clean(apart(out))
}

// checkSplit: Split of u, by the chapter's words. It answers the parts.
func checkSplit(t *testing.T, what string, u api.Update, most int) []api.Update {
	t.Helper()
	l := split(t, u, most)
	want := once(u)
	if got := update.Merge(l); !exact(got, want) {
		t.Fatalf("P17.2: %s, %d: Merge of %d parts: %v, not %v", what, most, len(l), short(got), short(want))
	}
	for i, part := range l {
		checkPart(t, what, part, most)
		if i > 0 {
			longer := update.Merge(l[i-1 : i+1])
			if b, e := update.Write(longer); e == api.OK && len(b) <= max(most, 64) {
				t.Fatalf("P17.2: %s, %d: %v and %v have room in one part", what, most, short(l[i-1]), short(part))
			}
		}
	}
	return l
}

func checkPart(t *testing.T, what string, part api.Update, most int) {
	t.Helper()
	b, e := update.Write(part)
	if e != api.OK || update.Empty(part) {
		t.Fatalf("P17.2: %s, %d: a part %v: %v", what, most, short(part), e)
	}
	alone := len(part.Ops) == 1 && ops.Len(part.Ops[0]) == 1 && len(part.Turns) == 0
	if len(b) > max(most, 64) && !alone {
		t.Fatalf("P17.2: %s, %d: a part of %d bytes: %v", what, most, len(b), short(part))
	}
	if !exact(part, update.Clean(part)) {
		t.Fatalf("P17.2: %s, %d: a part that isn't clean: %v", what, most, short(part))
	}
	if back, e := update.Read(b); e != api.OK || !exact(back, part) {
		t.Fatalf("P17.2: %s, %d: a part isn't read back: %v", what, most, short(part))
	}
}

// checkApplied: whoever applies the parts, in any order, must know what the whole tells.
func checkApplied(t *testing.T, what string, l []api.Update, u api.Update) {
	t.Helper()
	want := of(t, apart(once(u)))
	next := drawn(int64(len(l)))
	for range 3 {
		d := doc.New()
		for _, part := range l {
			apply(t, d, part)
		}
		checkAlike(t, "P17.2: "+what, d, want)
		shuffle(next, l)
	}
}

// sizes: bounds at the edges, and about the bytes that u needs.
func sizes(u api.Update) []int {
	b, _ := update.Write(u)
	n := len(b)
	return []int{math.MinInt, -5, 0, 1, 63, 64, 65, 66, 100, 128, 1000, n / 2, n - 1, n, n + 1, api.MaxBytes, api.MaxBytes + 1, math.MaxInt}
}

func TestP17_2Split(t *testing.T) {
	row := func(client uint64, n int, sizes ...int) (l []api.Op) {
		clock := uint64(n)
		for _, size := range sizes {
			l = append(l, at(client, clock, string(slices.Repeat([]rune("aé\u3042\U0001F600"), size/4+1)[:size])))
			clock += uint64(size)
		}
		return l
	}
	var small, large api.Update
	for i := range uint64(200) {
		small.Ops = append(small.Ops, set(id(1+i%3, 1+i/3*2), 1, none, "k", integer(int64(i))))
		large.Ops = append(large.Ops, embed(id(1+i%3, 1+i/3*2), none, none, words(strings.Repeat("v", int(i%5*70)))))
		small.Turns = append(small.Turns, turn(4, 1+2*i, 2+2*i, 1+i%3))
	}
	for _, x := range []struct {
		what string
		u    api.Update
	}{
		{"a rune", up(at(1, 1, "a"))},
		{"the longest rune", up(text(id(top, top), id(top-1, top), id(top-2, top), "\U0001F600"))},
		{"two of the longest runes", up(text(id(top, top-1), id(top-1, top), id(top-2, top), "\U0001F600\U0001F600"))},
		{"many of the longest runes", up(text(id(top, top-full+1), id(top-1, top), id(top-2, top), strings.Repeat("\U0001F600", full)))},
		{"a text of one byte's runes", up(row(1, 1, full)...)},
		{"a text of two bytes' runes", up(at(1, 1, strings.Repeat("é", full)))},
		{"a text of three bytes' runes", up(at(1, 1, strings.Repeat("\u3042", 1000)))},
		{"a text that fills a part just so", up(at(1, 1, strings.Repeat("x", 54)))},
		{"a text of one rune more", up(at(1, 1, strings.Repeat("x", 55)))},
		{"a text of one rune less", up(at(1, 1, strings.Repeat("x", 53)))},
		{"a row of texts", up(row(1, 1, full, full, full, 17)...)},
		{"a row of texts in other pieces", up(row(1, 1, 4000, 4000, 100, 4000)...)},
		{"rows of texts of several clients", up(slices.Concat(row(1, 1, full, 5), row(2, 5, full, full), row(3, 1, 3))...)},
		{"many small operations", api.Update{Ops: small.Ops}},
		{"operations greater than most", large},
		{"an operation greater than most", up(embed(id(1, 1), none, none, words(strings.Repeat("v", api.MaxString))))},
		{"an operation greater than most between texts", both(up(at(1, 1, "ab"), embed(id(1, 3), id(1, 2), none, words(strings.Repeat("v", 300))), text(id(1, 4), id(1, 3), none, "cd")), turn(1, 1, 2, 1))},
		{"a mark and a set that are greater than 64 bytes", up(mark(id(top, 1), top, ahead(id(top-1, top)), behind(id(top-2, top)), strings.Repeat("k", 64), null), set(id(top, 2), top, id(top-1, top), strings.Repeat("k", 64), aMap))},
		{"turns alone", api.Update{Turns: small.Turns}},
		{"a turn", turning(turn(1, 1, 2, 1))},
		{"the longest turn", turning(turn(top, top-1, top+1, top))},
		{"long turns", turning(turn(top, 1<<50, 1<<51, top), turn(top, 1<<51, 1<<52, top-1), turn(top-1, top, top+1, top))},
		{"a turn over many ids", turning(turn(1, 1, top+1, 5))},
		{"turns that lie over one another", turning(turn(1, 1, top+1, 1), turn(1, 5, 9, 2), turn(1, 7, 8, 3), turn(1, 100, 200, 1))},
		{"many of both", small},
		{"both, few", both(up(at(1, 1, "abc"), at(2, 1, "d")), turn(1, 1, 2, 1), turn(2, 1, 2, 3))},
		{"operations that wait", both(up(at(1, 5, strings.Repeat("w", 200)), text(id(2, 1), id(1, 9), none, "waits")), turn(7, 1, 9, 1))},
		{"NaN of other bits", up(embed(id(1, 1), none, none, nanOf(math.MaxUint64)), embed(id(2, 1), none, none, nanOf(1<<63)))},
		{"doubled ones, out of order", up(at(1, 4, "defg"), at(1, 1, "abc"), at(1, 4, "defg"), set(id(3, 1), 1, none, "k", null), at(1, 1, "abc"))},
		{"of one id a longer one behind", up(at(1, 1, "a"), at(1, 1, "abc"))},
		{"of one id a shorter one behind", up(at(1, 1, "abc"), at(1, 1, "a"))},
		{"texts that overlap", up(at(1, 1, "abcdef"), at(1, 3, "cdefgh"), at(1, 4, "d"))},
		{"rows that overlap", up(slices.Concat(row(1, 1, 1, full), row(1, 5, full-4), row(1, 4097, 300))...)},
		{"a text that names what is its own since it was joined", up(text(id(1, 1), id(1, 100), none, strings.Repeat("x", 50)), at(1, 51, strings.Repeat("y", 100)), at(2, 1, "z"))},
		{"wrong turns beside right ones", both(up(at(1, 1, "a")), turn(0, 1, 2, 1), turn(1, 1, 2, 1), turn(1, 3, 3, 1))},
	} {
		parts := -1
		for _, most := range sizes(x.u) {
			l := checkSplit(t, x.what, x.u, most)
			if len(l) != parts {
				checkApplied(t, x.what, l, x.u)
			}
			parts = len(l)
		}
	}
}

// TestP17_2AsFewAsNeeded: what is small enough as it stands is one part; with a byte less there must be more, if it can be cut.
func TestP17_2AsFewAsNeeded(t *testing.T) {
	for _, x := range []struct {
		what  string
		u     api.Update
		whole bool // it can't be cut
	}{
		{"a text", up(at(1, 1, strings.Repeat("x", 300))), false},
		{"a full text", up(at(1, 1, strings.Repeat("\U0001F600", full))), false},
		{"texts of several clients", up(at(1, 1, strings.Repeat("x", 100)), at(2, 1, strings.Repeat("x", 100))), false},
		{"an embed", up(embed(id(1, 1), none, none, words(strings.Repeat("x", 100)))), true},
		{"an embed and a turn", both(up(embed(id(1, 1), none, none, words(strings.Repeat("x", 100)))), turn(1, 1, 2, 1)), false},
		{"two embeds", up(embed(id(1, 1), none, none, words(strings.Repeat("x", 100))), embed(id(1, 2), none, none, null)), false},
		{"turns", turning(turn(1, 1, 2, 1<<50), turn(2, 1, 2, 1<<50), turn(3, 1, 2, 1<<50), turn(4, 1, 2, 1<<50), turn(5, 1, 2, 1<<50), turn(6, 1, 2, 1<<50)), false},
	} {
		b, e := update.Write(x.u)
		if e != api.OK || len(b) <= 65 {
			t.Fatalf("%s: %d bytes, %v", x.what, len(b), e)
		}
		for _, most := range []int{len(b), len(b) + 1, api.MaxBytes, math.MaxInt} {
			if l := checkSplit(t, x.what, x.u, most); len(l) != 1 || !exact(l[0], update.Clean(x.u)) {
				t.Errorf("%s: %d: %d parts", x.what, most, len(l))
			}
		}
		if l := checkSplit(t, x.what, x.u, len(b)-1); len(l) == 1 != x.whole {
			t.Errorf("%s: a byte less: %d parts", x.what, len(l))
		}
	}
}

func TestP17_2None(t *testing.T) {
	wrong := []api.Op{
		{}, at(1, 1, ""), at(1, 1, "\xFF"), at(0, 1, "a"), at(1, 1, strings.Repeat("x", full+1)), text(id(1, 1), id(1, 1), none, "a"), text(id(1, 1), id(1, 2), none, "ab"),
		embed(id(1, 1), none, none, aMap), mark(id(1, 1), 0, begin, end, "k", null), set(id(1, 1), 1, none, "", null), {Id: id(1, 1), Kind: api.OpSet + 1},
	}
	for _, most := range []int{-1, 64, 1000, api.MaxBytes} {
		for _, u := range []api.Update{{}, {Ops: []api.Op{}, Turns: []api.Turn{}}, turning(api.Turn{}), turning(turn(0, 1, 2, 1), turn(1, 2, 2, 1), turn(1, 1, 2, 0))} {
			if l := split(t, u, most); len(l) > 0 {
				t.Errorf("%v: %d parts", u, len(l))
			}
		}
		for _, o := range wrong {
			for place := range 3 {
				u := both(up(slices.Insert([]api.Op{at(2, 1, "x"), at(3, 1, strings.Repeat("y", 2000))}, place, o)...), turn(1, 1, 2, 1))
				if l := split(t, u, most); len(l) > 0 {
					t.Errorf("%v: %d parts", short(u), len(l))
				}
			}
		}
	}
	many := slices.Repeat([]api.Op{at(1, 1, "a")}, api.MaxOps+1)
	if l := split(t, up(append(many, api.Op{})...), 1000); len(l) > 0 {
		t.Errorf("a wrong operation behind too many: %d parts", len(l))
	}
}

// TestP17_2MoreThanWriteTakes: operations, turns and bytes beyond what one update may have, which is no fault of what its operations are.
func TestP17_2MoreThanWriteTakes(t *testing.T) {
	d := crowd(t, api.MaxOps+1, 2*api.MaxOps+1)
	u := snapOf(t, d)
	var long api.Update
	for client := range uint64(300) {
		long.Ops = append(long.Ops, at(1+client, 1, strings.Repeat("é", full)))
	}
	over := turning(turn(1, 1, top+1, 1))
	for i := range uint64(api.MaxOps) {
		over.Turns = append(over.Turns, turn(1, 2*i+2, 2*i+3, 2))
	}
	for _, most := range []int{5000, math.MaxInt} {
		for what, x := range map[string]api.Update{"operations and turns": u, "bytes": long, "turns that lie over one another": over} {
			l := checkSplit(t, what, x, most)
			got := doc.New()
			for _, part := range l {
				apply(t, got, part)
			}
			known, _ := all(got)
			if !exact(known, update.Clean(x)) {
				t.Errorf("%s, %d: the parts tell %v", what, most, short(known))
			}
			if b, e := update.Write(x); e == api.OK && len(b) <= most && what != "turns that lie over one another" {
				t.Errorf("%s: the test's own are %d bytes", what, len(b))
			}
		}
	}
}

// TestP17_2LetsBytesThrough: what each part's bytes tell, in any order, must be all.
func TestP17_2LetsBytesThrough(t *testing.T) {
	for seed := range int64(300) {
		next := drawn(seed)
		told := update.Merge(story(t, next))
		most := []int{64, 80, 150, 1000}[next(4)]
		l := checkSplit(t, "a story", told, most)
		checkApplied(t, "a story", l, told)
		d := doc.New()
		for _, part := range l {
			b, _ := update.Write(part)
			u, e := update.Read(b)
			if e != api.OK {
				t.Fatalf("P17.2: a part: %v", e)
			}
			apply(t, d, u)
		}
		checkAlike(t, "P17.2: a story", d, of(t, told))
	}
}

// someUpdate: operations of all kinds, long texts among them, that may overlap alike, and turns.
func someUpdate(next func(int) int) api.Update {
	var u api.Update
	for range next(9) {
		client, clock := uint64(1+next(2)), uint64(1+next(9000))
		switch next(6) {
		case 0:
			u.Ops = append(u.Ops, embed(id(client, 20000+clock), none, none, words(strings.Repeat("v", next(200)))))
		case 1:
			u.Ops = append(u.Ops, mark(id(client, 40000+clock), 1, begin, end, "key", integer(int64(next(9)))))
		case 2:
			u.Ops = append(u.Ops, set(id(client, 60000+clock), 1, none, strings.Repeat("k", 1+next(64)), words("x")))
		default:
			n := 1 + next(30)
			if next(3) == 0 {
				n = 1 + next(full)
			}
			u.Ops = append(u.Ops, stretch(client, clock, clock+uint64(n)))
		}
	}
	for range next(9) {
		from := uint64(1 + next(5000))
		u.Turns = append(u.Turns, turn(uint64(1+next(2)), from, from+uint64(1+next(500)), uint64(1+next(4))))
	}
	return u
}

// stretch: of one long row of a client the runes from one clock on below another one; each rune by its clock, so that all stretches are alike where they overlap.
func stretch(client, from, to uint64) api.Op {
	var s strings.Builder
	for n := from; n < to; n++ {
		s.WriteRune([]rune("aé\u3042bcd\U0001F600e")[n%8])
	}
	return at(client, from, s.String())
}

func trySplit(t *testing.T, next func(int) int) {
	t.Helper()
	u := someUpdate(next)
	for range 2 {
		most := 60 + next(200)
		if next(3) == 0 {
			most = next(20000)
		}
		checkSplit(t, fmt.Sprint(len(u.Ops), " and ", len(u.Turns)), u, most)
	}
}

func TestP17_2ByTheModel(t *testing.T) {
	for seed := range int64(300) {
		trySplit(t, drawn(seed))
	}
}

func FuzzP17_2ByTheModel(f *testing.F) {
	f.Add([]byte{})
	for seed := range int64(8) {
		b := make([]byte, 100)
		rand.New(rand.NewSource(seed)).Read(b)
		f.Add(b)
	}
	f.Fuzz(func(t *testing.T, b []byte) { trySplit(t, given(b)) })
}

// TestP17_3OfParts: documents that were told all in parts, however small, have the bytes of one that was told it at once.
func TestP17_3OfParts(t *testing.T) {
	for seed := range int64(100) {
		next := drawn(seed)
		told := update.Merge(story(t, next))
		want := checkKept(t, "at once", of(t, told))
		for _, most := range []int{64, 200} {
			l := snap.Split(told, most)
			shuffle(next, l)
			if got := checkKept(t, "in parts", of(t, l...)); !slices.Equal(got, want) {
				t.Fatalf("P17.3: %x, not %x", got, want)
			}
		}
	}
}
