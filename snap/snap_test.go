package snap_test

import (
	"bytes"
	"fmt"
	"hash/crc32"
	"math/rand"
	"slices"
	"strings"
	"testing"

	"quire/api"
	"quire/doc"
	"quire/ops"
	"quire/snap"
	"quire/update"
)

// empty: the chapter's example.
var empty = []byte{0x51, 0, 0}

// checkKept: Write of d must be update.Write of what d knows, Sum its sum, and Read of it a document that knows the same, and has the same bytes.
func checkKept(t *testing.T, what string, d *doc.Doc) []byte {
	t.Helper()
	known, _ := all(d)
	want, errno := update.Write(known)
	b, e := written(t, d)
	if !bytes.Equal(b, want) || e != errno {
		t.Fatalf("P17.1: %s: Write: %x, %v, not %x, %v", what, b[:min(len(b), 99)], e, want[:min(len(want), 99)], errno)
	}
	if errno != api.OK {
		if sum := snap.Sum(d); sum != 0 || len(b) > 0 {
			t.Fatalf("P17.1: %s: Sum: %x; %d bytes", what, sum, len(b))
		}
		return nil
	}
	if sum := snap.Sum(d); sum != crc32.ChecksumIEEE(b) {
		t.Fatalf("P17.1: %s: Sum: %x, not %x", what, sum, crc32.ChecksumIEEE(b))
	}
	again, e := read(t, b)
	if e != api.OK {
		t.Fatalf("P17.1: %s: Read: %v", what, e)
	}
	if bytesAgain, e := written(t, again); e != api.OK || !bytes.Equal(bytesAgain, b) {
		t.Fatalf("P17.3: %s: Write of Read: %x, %v, not %x", what, bytesAgain, e, b)
	}
	if d.Waiting() == 0 {
		checkAlike(t, "P17.3: "+what+": Read", again, d)
	}
	if again.Waiting() != 0 {
		t.Fatalf("P17.1: %s: in Read of Write wait %d", what, again.Waiting())
	}
	return b
}

func TestP17_1Example(t *testing.T) {
	if b := checkKept(t, "the chapter's: an empty document", doc.New()); !bytes.Equal(b, empty) {
		t.Errorf("%x", b)
	}
	if sum := snap.Sum(doc.New()); sum != crc32.ChecksumIEEE(empty) || sum == 0 {
		t.Errorf("Sum of an empty document: %x", sum)
	}
}

func TestP17_1Write(t *testing.T) {
	long := strings.Repeat("é", full)
	for _, x := range []struct {
		what string
		l    []api.Update
		want []byte // nil: whatever it is
	}{
		{"a text", []api.Update{up(at(1, 1, "ab"))}, []byte{0x51, 1, 1, 1, 1, 0, 0, 0, 0, 2, 'a', 'b', 0}},
		{"a text in pieces", []api.Update{up(at(1, 2, "b")), up(at(1, 1, "a"))}, []byte{0x51, 1, 1, 1, 1, 0, 0, 0, 0, 2, 'a', 'b', 0}},
		{"a turn alone", []api.Update{turning(turn(1, 2, 3, 300))}, []byte{0x51, 0, 1, 1, 2, 3, 0xAC, 2}},
		{"a deleted text", []api.Update{both(up(at(1, 1, "a")), turn(1, 1, 2, 1))}, []byte{0x51, 1, 1, 1, 1, 0, 0, 0, 0, 1, 'a', 1, 1, 1, 2, 1}},
		{"what waits", []api.Update{up(at(1, 2, "b"))}, empty},
		{"what waits for another client's", []api.Update{up(text(id(1, 1), id(2, 1), none, "b"))}, empty},
		{"what waits behind what is known", []api.Update{up(at(1, 1, "a"), at(1, 3, "c"))}, []byte{0x51, 1, 1, 1, 1, 0, 0, 0, 0, 1, 'a', 0}},
		{"a turn of what waits", []api.Update{both(up(at(1, 2, "b")), turn(1, 2, 3, 1))}, []byte{0x51, 0, 1, 1, 2, 3, 1}},
		{"a void one", []api.Update{up(text(id(1, 1), id(1, 5), none, "a"))}, []byte{0x51, 1, 1, 1, 1, 1, 5, 0, 0, 1, 'a', 0}},
		{"NaN of other bits", []api.Update{up(embed(id(1, 1), none, none, nanOf(0xFFF0000000000001)))}, []byte{0x51, 1, 2, 1, 1, 0, 0, 0, 0, 3, 0x7F, 0xF8, 0, 0, 0, 0, 0, 0, 0}},
		{"each kind", []api.Update{up(at(1, 1, "ab"), embed(id(1, 3), id(1, 1), none, null), mark(id(2, 1), 3, ahead(id(1, 1)), behind(id(1, 2)), "k", integer(-1)), set(id(2, 2), 4, none, "m", aMap), set(id(2, 3), 5, id(2, 2), "n", words("x")))}, nil},
		{"a long row", []api.Update{up(at(1, 1, long), at(1, full+1, long), at(1, 2*full+1, "é"))}, nil},
		{"turns that lie over one another", []api.Update{turning(turn(1, 1, 9, 1), turn(1, 3, 5, 2), turn(top, 1, top+1, top))}, []byte{0x51, 0, 4, 1, 1, 3, 1, 1, 3, 5, 2, 1, 5, 9, 1, 0xFF, 0xFF, 0xFF, 0xFF, 0xFF, 0xFF, 0xFF, 0x0F, 1, 0x80, 0x80, 0x80, 0x80, 0x80, 0x80, 0x80, 0x10, 0xFF, 0xFF, 0xFF, 0xFF, 0xFF, 0xFF, 0xFF, 0x0F}},
	} {
		d := of(t, x.l...)
		if b := checkKept(t, x.what, d); x.want != nil && !bytes.Equal(b, x.want) {
			t.Errorf("%s: %x, not %x", x.what, b, x.want)
		}
	}
}

// filled: a document of which Write would be of just so many bytes: long texts, and the rest in some values.
func filled(t *testing.T, n int) *doc.Doc {
	t.Helper()
	var u api.Update
	left := n - 4 // of what stands around more than 127 operations
	add := func(o api.Op) {
		b, _ := update.Write(up(o))
		left -= len(b) - 3
		u.Ops = append(u.Ops, o)
	}
	long := strings.Repeat("x", full)
	for client := uint64(1); left > 2*full; client++ {
		add(at(client, 1, long))
	}
	for clock := range uint64(4) {
		s := long[:max(0, min(left-50, full))]
		if clock == 3 {
			b, _ := update.Write(up(set(id(1<<20, 4), 1, none, "k", words(""))))
			s = long[:left-(len(b)-3)]
		}
		add(set(id(1<<20, 1+clock), 1, none, "k", words(s)))
	}
	if left != 0 {
		t.Fatalf("the test's own: %d bytes are left", left)
	}
	return of(t, u)
}

// crowd: a document that knows so many operations that don't join, and so many turns that don't touch, told in parts.
func crowd(t *testing.T, ops, turns int) *doc.Doc {
	t.Helper()
	d := doc.New()
	var u api.Update
	for i := range uint64(ops) {
		u.Ops = append(u.Ops, set(id(1+i%3, 1+i/3), 1, none, "k", null))
	}
	for i := range uint64(turns) {
		u.Turns = append(u.Turns, turn(9, 1+2*i, 2+2*i, 1))
	}
	for l := range slices.Chunk(u.Ops, 9999) {
		apply(t, d, api.Update{Ops: l})
	}
	for l := range slices.Chunk(u.Turns, 9999) {
		apply(t, d, api.Update{Turns: l})
	}
	return d
}

func TestP17_1WriteRefuses(t *testing.T) {
	for _, x := range []struct {
		what string
		d    *doc.Doc
		want api.Errno
	}{
		{"MaxOps operations", crowd(t, api.MaxOps, 0), api.OK},
		{"one operation more", crowd(t, api.MaxOps+1, 0), api.ErrUpdateForm},
		{"MaxOps turns", crowd(t, 0, api.MaxOps), api.OK},
		{"one turn more", crowd(t, 0, api.MaxOps+1), api.ErrUpdateForm},
		{"MaxOps of both", crowd(t, api.MaxOps, api.MaxOps), api.OK},
		{"one more of both", crowd(t, api.MaxOps+1, api.MaxOps+1), api.ErrUpdateForm},
		{"MaxBytes", filled(t, api.MaxBytes), api.OK},
		{"one byte less", filled(t, api.MaxBytes-1), api.OK},
		{"one byte more", filled(t, api.MaxBytes+1), api.ErrUpdateForm},
		{"many bytes more", filled(t, 2*api.MaxBytes), api.ErrUpdateForm},
		{"a text that names what is its own since it was joined", of(t, up(text(id(1, 1), id(1, 2), none, "a"), at(1, 2, "b"))), api.ErrOpForm},
	} {
		checkKept(t, x.what, x.d)
		b, e := snap.Write(x.d)
		if e != x.want || (len(b) == 0) != (e != api.OK) {
			t.Errorf("%s: %d bytes, %v, not %v", x.what, len(b), e, x.want)
		}
		if sum := snap.Sum(x.d); (sum == 0) != (e != api.OK) {
			t.Errorf("%s: Sum: %x", x.what, sum)
		}
	}
}

// checkRefused: Read of b must be update.Read's error, and no document.
func checkRefused(t *testing.T, what string, b []byte) {
	t.Helper()
	if d, e := read(t, b); d != nil || e != api.ErrUpdateForm {
		t.Errorf("P17.1: %s: Read of %x: %v", what, b[:min(len(b), 99)], e)
	}
}

// checkRead: Read of b must be as update.Read of it, applied to an empty document.
func checkRead(t *testing.T, what string, b []byte) {
	t.Helper()
	u, errno := update.Read(b)
	if errno != api.OK {
		checkRefused(t, what, b)
		return
	}
	d, e := read(t, b)
	if e != api.OK {
		t.Fatalf("P17.1: %s: Read of %x: %v", what, b, e)
	}
	checkAlike(t, "P17.1: "+what, d, of(t, apart(u)))
}

// apart: u with each text's first rune apart, which a document takes even if the text names what is its own since it was joined.
func apart(u api.Update) api.Update {
	out := turning(u.Turns...)
	for _, o := range u.Ops {
		first, _ := ops.Cut(o, 0, 1)
		out.Ops = append(out.Ops, first)
		if rest, some := ops.Cut(o, 1, ops.Len(o)); some {
			out.Ops = append(out.Ops, rest)
		}
	}
	return out
}

func TestP17_1Read(t *testing.T) {
	for _, u := range []api.Update{
		{}, up(at(1, 1, "ab")), turning(turn(1, 2, 3, 300)), up(at(1, 2, "waits")), both(up(text(id(1, 1), id(2, 1), none, "waits"), at(3, 1, "x")), turn(3, 1, 2, 1)),
		up(at(1, 1, "ab"), embed(id(1, 3), id(1, 1), none, null), mark(id(2, 1), 3, ahead(id(1, 1)), behind(id(1, 2)), "k", integer(-1)), set(id(2, 2), 4, none, "m", aMap)),
	} {
		b, e := update.Write(u)
		if e != api.OK {
			t.Fatal(e)
		}
		checkRead(t, "an update", b)
		for n := range b {
			checkRefused(t, "some bytes are missing", b[:n])
			checkRead(t, "one byte is missing", slices.Delete(slices.Clone(b), n, n+1))
			for x := range 256 {
				c := slices.Clone(b)
				c[n] = byte(x)
				checkRead(t, "another byte", c)
			}
		}
		for _, more := range [][]byte{{0}, {0x51}, empty, b} {
			checkRefused(t, "with more behind", slices.Concat(b, more))
		}
	}
	for _, b := range [][]byte{nil, {}, {0}, {1}, {0x50, 0, 0}, {0x51, 0, 2, 1, 2, 3, 1, 1, 1, 2, 1}, bytes.Repeat([]byte{0xFF}, 99), make([]byte, api.MaxBytes+1)} {
		checkRefused(t, "what nothing writes", b)
	}
	for n := range 2 {
		d := filled(t, api.MaxBytes+n)
		known, _ := all(d)
		b := []byte{0x51, 0x80 | byte(len(known.Ops)), byte(len(known.Ops) >> 7)}
		for _, o := range known.Ops {
			one, _ := update.Write(up(o))
			b = append(b, one[2:len(one)-1]...)
		}
		checkRead(t, fmt.Sprint("MaxBytes and ", n), append(b, 0)[:len(b)+1])
	}
}

// TestP17_1ReadOfMoreThanADocumentTakes: what bytes tell that a document refuses to be told at once.
func TestP17_1ReadOfMoreThanADocumentTakes(t *testing.T) {
	over := up(at(1, 1, "abc"))
	for i := range uint64(api.MaxOps) {
		over.Turns = append(over.Turns, turn(2, 1+i, 100000-i, 1+i))
	}
	b, e := update.Write(over)
	if e != api.OK {
		t.Fatal(e)
	}
	d, e := read(t, b)
	if e != api.OK {
		t.Fatalf("turns that lie over one another: %v", e)
	}
	checkAlike(t, "turns that lie over one another", d, of(t, over))
	if n := len(d.Turns()); n != 2*api.MaxOps-1 {
		t.Errorf("turns that lie over one another: %d", n)
	}

	own := up(text(id(1, 1), id(1, 3), none, "ab"), at(1, 3, "cd"), at(2, 1, "x"))
	b, e = update.Write(own)
	if e != api.OK {
		t.Fatal(e)
	}
	d, e = read(t, b)
	if e != api.OK {
		t.Fatalf("a text that names what is its own since it was joined: %v", e)
	}
	checkAlike(t, "a text that names what is its own since it was joined", d, of(t, own))
	if d.Waiting() != 0 || len(d.Vector()) != 2 {
		t.Errorf("a text that names what is its own since it was joined: %v", d.Vector())
	}
}

// TestP17_1SumOfUnlikeOnes: of what differs in one thing alone.
func TestP17_1SumOfUnlikeOnes(t *testing.T) {
	l := []api.Update{
		{}, up(at(1, 1, "a")), up(at(1, 1, "b")), up(at(1, 1, "ab")), up(at(2, 1, "a")), turning(turn(1, 1, 2, 1)), turning(turn(1, 1, 2, 2)), turning(turn(1, 1, 3, 1)),
		both(up(at(1, 1, "a")), turn(1, 1, 2, 1)), up(set(id(1, 1), 1, none, "k", null)), up(set(id(1, 1), 2, none, "k", null)), up(set(id(1, 1), 1, none, "l", null)), up(embed(id(1, 1), none, none, null)),
	}
	for i, u := range l {
		for k, v := range l {
			if a, b := snap.Sum(of(t, u)), snap.Sum(of(t, v)); (a == b) != (i == k) {
				t.Errorf("Sum of %v and of %v: %x, %x", u, v, a, b)
			}
		}
	}
}

// TestP17_3InAnyOrder: documents that were told the same in other pieces, other orders, doubled.
func TestP17_3InAnyOrder(t *testing.T) {
	for seed := range int64(400) {
		tryKnown(t, drawn(seed))
	}
}

func tryKnown(t *testing.T, next func(int) int) {
	t.Helper()
	told := story(t, next)
	d := of(t, told...)
	b := checkKept(t, "a story", d)
	for range 3 {
		other := of(t, pieces(next, told)...)
		if got := checkKept(t, "a story in pieces", other); !bytes.Equal(got, b) {
			t.Fatalf("P17.3: %x, not %x", got, b)
		}
		if snap.Sum(other) != snap.Sum(d) {
			t.Fatal("P17.3: Sum")
		}
	}
	known := told[:next(len(told)+1)]
	part := of(t, pieces(next, known)...)
	partly := checkKept(t, "some of a story", part)
	if u, v := snapOf(t, part), snapOf(t, d); !exact(u, v) == bytes.Equal(partly, b) {
		t.Fatalf("P17.1: %x, %x", partly, b)
	}
	checkKept(t, "a story from somewhere on, of which some waits", of(t, told[len(known):]...))
}

func snapOf(t *testing.T, d *doc.Doc) api.Update {
	t.Helper()
	u, _ := all(d)
	return u
}

func FuzzP17_3InAnyOrder(f *testing.F) {
	f.Add([]byte{})
	for seed := range int64(8) {
		b := make([]byte, 150)
		rand.New(rand.NewSource(seed)).Read(b)
		f.Add(b)
	}
	f.Fuzz(func(t *testing.T, b []byte) { tryKnown(t, given(b)) })
}
