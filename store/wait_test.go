package store_test

import (
	"fmt"
	"math/rand"
	"slices"
	"strings"
	"testing"

	"quire/api"
	"quire/ops"
	"quire/store"
)

func checkWaiting(t *testing.T, what string, s *store.Store, want int) {
	t.Helper()
	if got := s.Waiting(); got != want {
		t.Fatalf("%s: Waiting %d, not %d", what, got, want)
	}
}

func checkNext(t *testing.T, what string, s *store.Store, want api.Op) {
	t.Helper()
	if got, ok := s.Next(); !ok || !exact(got, want) {
		t.Fatalf("%s: Next: %v, %v, not %v", what, told(got), ok, told(want))
	}
}

func checkNoNext(t *testing.T, what string, s *store.Store) {
	t.Helper()
	if got, ok := s.Next(); ok || !exact(got, api.Op{}) {
		t.Fatalf("%s: Next: %v, %v", what, told(got), ok)
	}
}

// drain: what Next brings, each added ahead of the next one.
func drain(t *testing.T, s *store.Store) []api.Op {
	t.Helper()
	var out []api.Op
	for o, ok := s.Next(); ok; o, ok = s.Next() {
		checkOps(t, "Add of Next", s.Add(o), o)
		out = append(out, o)
	}
	return out
}

func TestP10_2Example(t *testing.T) {
	s := store.New()
	s.Wait(at(1, 3, "c"))
	checkNoNext(t, "{1, 3}", s)
	checkOps(t, "Add", s.Add(at(1, 1, "ab")), at(1, 1, "ab"))
	checkNext(t, "behind {1, 1}", s, at(1, 3, "c"))
}

func TestP10_2WaitRefuses(t *testing.T) {
	s := store.New()
	for _, o := range wrongOps() {
		s.Wait(o)
		checkWaiting(t, "what Check refuses", s, 0)
		checkNoNext(t, "what Check refuses", s)
	}
	checkKnown(t, "what Check refuses", s)
}

// TestP10_2Wait: client 1's clocks 1 to 4 are known ("aß€d"), 7 and 8 ("gh"), 11 ("k") and 20 to 22 ("tuv") wait; of what comes to wait then what is neither known nor waits does. What Next brings, when all that is missing is added bit by bit, tells in which pieces.
func TestP10_2Wait(t *testing.T) {
	const line = "aß€de\U0001F600ghijklmnopqrstuvwxyz"
	cut := func(from, to int) api.Op { return at(1, uint64(from), string([]rune(line)[from-1:to-1])) }
	for _, x := range []struct {
		what     string
		from, to int
		pieces   [][2]int
	}{
		{"all known", 1, 5, nil},
		{"a part of what is known", 2, 4, nil},
		{"known in part", 3, 7, [][2]int{{5, 7}}},
		{"right behind what is known", 5, 6, [][2]int{{5, 6}}},
		{"waits already", 7, 9, nil},
		{"the beginning of what waits", 7, 8, nil},
		{"the end of what waits", 8, 9, nil},
		{"the middle of what waits", 21, 22, nil},
		{"ends within what waits", 6, 8, [][2]int{{6, 7}}},
		{"begins within what waits", 8, 10, [][2]int{{9, 10}}},
		{"over one that waits", 6, 10, [][2]int{{6, 7}, {9, 10}}},
		{"over two that wait", 6, 13, [][2]int{{6, 7}, {9, 11}, {12, 13}}},
		{"from one that waits to another", 8, 12, [][2]int{{9, 11}}},
		{"between two that wait", 9, 11, [][2]int{{9, 11}}},
		{"between two that wait, apart", 14, 16, [][2]int{{14, 16}}},
		{"behind all that waits", 23, 25, [][2]int{{23, 25}}},
		{"far behind", 25, 27, [][2]int{{25, 27}}},
		{"known, waiting and neither", 2, 27, [][2]int{{5, 7}, {9, 11}, {12, 20}, {23, 27}}},
		{"from the first on", 1, 21, [][2]int{{5, 7}, {9, 11}, {12, 20}}},
	} {
		s := of(t, cut(1, 5))
		pieces := append([][2]int{{7, 9}, {11, 12}, {20, 23}}, x.pieces...)
		for _, i := range []int{2, 0, 1} {
			s.Wait(cut(pieces[i][0], pieces[i][1]))
		}
		checkWaiting(t, "ahead", s, 6)
		clocks := 6
		for _, p := range x.pieces {
			clocks += p[1] - p[0]
		}
		for range 2 { // the second time all of it waits already
			s.Wait(cut(x.from, x.to))
			checkWaiting(t, x.what, s, clocks)
			checkKnown(t, x.what, s, api.Clock{Client: 1, Clock: 4})
		}
		slices.SortFunc(pieces, func(a, b [2]int) int { return a[0] - b[0] })
		for _, p := range pieces {
			for clock := int(s.Known()[0].Clock) + 1; clock < p[0]; clock++ {
				checkNoNext(t, x.what, s)
				checkOps(t, x.what, s.Add(cut(clock, clock+1)), cut(clock, clock+1))
			}
			checkNext(t, fmt.Sprintf("%s: %v", x.what, p), s, cut(p[0], p[1]))
			clocks -= p[1] - p[0]
			checkWaiting(t, x.what, s, clocks)
			s.Add(cut(p[0], p[1]))
		}
		checkNoNext(t, x.what, s)
	}
}

func TestP10_2WaitOfWhatIsNoText(t *testing.T) {
	s := store.New()
	for _, o := range []api.Op{set(1, 3), mark(1, 2), embed(1, 1), mark(1, 2), embed(1, 1), set(1, 3)} {
		s.Wait(o)
	}
	checkWaiting(t, "each twice", s, 3)
	checkOps(t, "each once", drain(t, s), embed(1, 1), mark(1, 2), set(1, 3))
	s.Wait(embed(1, 1))
	s.Wait(mark(1, 2))
	s.Wait(set(1, 3))
	checkWaiting(t, "known ones", s, 0)
}

// TestP10_2WaitAtTheEdges: clients and clocks at MaxId wait, with all others.
func TestP10_2WaitAtTheEdges(t *testing.T) {
	s := store.New()
	s.Wait(at(top, top, "z"))
	s.Wait(at(top, top-1, "yz"))
	s.Wait(at(1, top-full+1, strings.Repeat("€", full)))
	s.Wait(at(1, top, "€"))
	s.Wait(at(top, 1, "ab"))
	checkWaiting(t, "at MaxId", s, full+4)
	checkKnown(t, "at MaxId", s)
	checkNext(t, "at MaxId", s, at(top, 1, "ab"))
	checkNoNext(t, "at MaxId", s)
	checkWaiting(t, "at MaxId", s, full+2)
	checkNothing(t, s, id(top, top))
	checkOps(t, "at MaxId", s.Add(at(top, top, "z")))
}

// TestP10_2NextByClients: the least client's comes first, whatever came to wait first.
func TestP10_2NextByClients(t *testing.T) {
	s := store.New()
	clients := []uint64{7, top, 2, 300, 1, 9}
	for _, client := range clients {
		s.Wait(at(client, 1, "a"))
		s.Wait(at(client, 3, "c"))
	}
	s.Wait(at(3, 2, "b")) // not to be brought: 3, 1 isn't known
	slices.Sort(clients)
	for i, client := range clients {
		checkWaiting(t, "several clients", s, 13-i)
		checkNext(t, "several clients", s, at(client, 1, "a"))
	}
	checkNoNext(t, "several clients", s)
	for _, client := range []uint64{300, 3, 1, top} {
		s.Add(at(client, 1, "ab"))
	}
	for _, client := range []uint64{1, 300, top} {
		checkNext(t, "several clients, later", s, at(client, 3, "c"))
	}
	checkNoNext(t, "several clients, later", s)
	checkWaiting(t, "several clients, later", s, 3)
}

// TestP10_2NextInterleaved: a lesser client who becomes ready is taken ahead of those who were so earlier.
func TestP10_2NextInterleaved(t *testing.T) {
	s := store.New()
	s.Wait(at(5, 1, "x"))
	s.Wait(at(9, 1, "x"))
	s.Wait(at(2, 2, "y"))
	s.Add(at(2, 1, "x"))
	checkNext(t, "2 became ready", s, at(2, 2, "y"))
	checkNext(t, "5 is left", s, at(5, 1, "x"))
	s.Wait(at(3, 1, "x"))
	checkNext(t, "3 came", s, at(3, 1, "x"))
	checkNext(t, "9 is left", s, at(9, 1, "x"))
	checkNoNext(t, "none is left", s)
}

// TestP10_2WaitingBehindAdd: what waits and is made known waits no more, whichever part of it that is; behind each Add Waiting tells so, and Next brings the rest.
func TestP10_2WaitingBehindAdd(t *testing.T) {
	for _, x := range []struct {
		what        string
		waits, adds []api.Op
		waiting     []int // ahead, and behind each Add
		rest        []api.Op
	}{
		{"wholly", []api.Op{at(3, 1, "a")}, []api.Op{at(3, 1, "a")}, []int{1, 0}, nil},
		{"wholly, an embed", []api.Op{embed(3, 1)}, []api.Op{embed(3, 1)}, []int{1, 0}, nil},
		{"wholly, a mark", []api.Op{mark(3, 1)}, []api.Op{mark(3, 1)}, []int{1, 0}, nil},
		{"wholly, a set", []api.Op{set(3, 1)}, []api.Op{set(3, 1)}, []int{1, 0}, nil},
		{"wholly, with more ahead", []api.Op{at(3, 3, "c")}, []api.Op{at(3, 1, "abc")}, []int{1, 0}, nil},
		{"wholly, with more behind", []api.Op{at(3, 1, "a")}, []api.Op{at(3, 1, "abc")}, []int{1, 0}, nil},
		{"wholly, with more around", []api.Op{at(3, 2, "b")}, []api.Op{at(3, 1, "abc")}, []int{1, 0}, nil},
		{"wholly, in two", []api.Op{at(3, 1, "ß€")}, []api.Op{at(3, 1, "ß"), at(3, 2, "€")}, []int{2, 1, 0}, nil},
		{"in part, another waits", []api.Op{at(1, 2, "bcd"), at(2, 5, "xy")}, []api.Op{at(1, 1, "ab")}, []int{5, 4}, []api.Op{at(1, 3, "cd")}},
		{"in part, by one and one", []api.Op{at(1, 2, "ß€\U0001F600")}, []api.Op{at(1, 1, "a"), at(1, 2, "ß"), at(1, 3, "€")}, []int{3, 3, 2, 1}, []api.Op{at(1, 4, "\U0001F600")}},
		{"in part, of what has a Right", []api.Op{text(1, 1, id(7, 7), id(7, 8), "ß€\U0001F600")}, []api.Op{text(1, 1, id(7, 7), id(7, 8), "ß")}, []int{3, 2}, []api.Op{text(1, 2, id(1, 1), id(7, 8), "€\U0001F600")}},
		{"up to what waits", []api.Op{at(1, 3, "cd")}, []api.Op{at(1, 1, "ab")}, []int{2, 2}, []api.Op{at(1, 3, "cd")}},
		{"not up to what waits", []api.Op{at(1, 4, "d")}, []api.Op{at(1, 1, "ab")}, []int{1, 1}, nil},
		{"several wholly", []api.Op{at(1, 6, "f"), at(1, 2, "b"), at(1, 4, "d")}, []api.Op{at(1, 1, "abcdef")}, []int{3, 0}, nil},
		{"several wholly, side by side", []api.Op{at(1, 1, "ab"), at(1, 3, "c"), at(1, 4, "def")}, []api.Op{at(1, 1, "abcdef")}, []int{6, 0}, nil},
		{"several, the last one in part", []api.Op{at(1, 2, "b"), at(1, 4, "d"), at(1, 6, "fgh")}, []api.Op{at(1, 1, "abcdef")}, []int{5, 2}, []api.Op{at(1, 7, "gh")}},
		{"several, the last one not", []api.Op{at(1, 2, "b"), at(1, 4, "d"), at(1, 8, "h")}, []api.Op{at(1, 1, "abcdef")}, []int{3, 1}, nil},
		{"several, bit by bit", []api.Op{at(1, 2, "bc"), at(1, 5, "ef")}, []api.Op{at(1, 1, "ab"), at(1, 3, "cd"), at(1, 5, "e"), at(1, 6, "f")}, []int{4, 3, 2, 1, 0}, nil},
		{"several kinds", []api.Op{set(1, 4), embed(1, 2), mark(1, 3), at(1, 5, "ef")}, []api.Op{at(1, 1, "a"), embed(1, 2), mark(1, 3), set(1, 4), at(1, 5, "e")}, []int{5, 5, 4, 3, 2, 1}, []api.Op{at(1, 6, "f")}},
		{"several clients", []api.Op{at(1, 1, "ab"), at(2, 1, "ab"), at(3, 1, "ab"), at(top, 1, "ab")}, []api.Op{at(2, 1, "ab"), at(top, 1, "abc"), at(1, 1, "a"), at(1, 2, "b")}, []int{8, 6, 4, 3, 2}, []api.Op{at(3, 1, "ab")}},
		{"what has come to wait twice", []api.Op{at(1, 2, "bc"), at(1, 3, "cd"), at(1, 2, "bcd")}, []api.Op{at(1, 1, "abc")}, []int{3, 1}, []api.Op{at(1, 4, "d")}},
		{"an Add behind a gap", []api.Op{at(1, 2, "b")}, []api.Op{at(1, 2, "b"), at(1, 3, "c")}, []int{1, 1, 1}, nil},
		{"an Add of another client", []api.Op{at(1, 1, "ab")}, []api.Op{at(2, 1, "ab")}, []int{2, 2}, []api.Op{at(1, 1, "ab")}},
		{"an Add once more", []api.Op{at(1, 2, "bc")}, []api.Op{at(1, 1, "ab"), at(1, 1, "ab"), at(1, 2, "b")}, []int{2, 1, 1, 1}, []api.Op{at(1, 3, "c")}},
		{"Adds of what Check refuses", []api.Op{at(1, 1, "ab")}, wrongOps()[:3], []int{2, 2, 2, 2}, []api.Op{at(1, 1, "ab")}},
		{"as long as can be", []api.Op{at(1, 1, strings.Repeat("€", full))}, []api.Op{at(1, 1, strings.Repeat("€", full-1)), at(1, full, "€")}, []int{full, 1, 0}, nil},
	} {
		s := store.New()
		for _, o := range x.waits {
			s.Wait(o)
		}
		checkWaiting(t, x.what, s, x.waiting[0])
		for i, o := range x.adds {
			s.Add(o)
			checkWaiting(t, fmt.Sprintf("%s, Add %d", x.what, i), s, x.waiting[i+1])
		}
		left := x.waiting[len(x.adds)]
		for _, o := range x.adds { // what is known says nothing
			if ops.Range(o).To-1 <= knownOf(s, o.Id.Client) {
				s.Wait(o)
			}
			checkWaiting(t, x.what+", waits anew", s, left)
		}
		for _, o := range x.rest {
			checkNext(t, x.what, s, o)
			left -= ops.Len(o)
			checkWaiting(t, x.what+", Next", s, left)
		}
		checkNoNext(t, x.what, s)
		checkWaiting(t, x.what+", no Next", s, left)
	}
}

func knownOf(s *store.Store, client uint64) uint64 {
	for _, c := range s.Known() {
		if c.Client == client {
			return c.Clock
		}
	}
	return 0
}

// TestP10_2NextOfWhatBecameKnown: what has become known of what waits isn't brought; the next one is.
func TestP10_2NextOfWhatBecameKnown(t *testing.T) {
	s := store.New()
	s.Wait(at(1, 2, "ß€\U0001F600"))
	s.Wait(at(4, 1, "z"))
	s.Add(at(1, 1, "aß€"))
	checkWaiting(t, "known in part", s, 2)
	checkNext(t, "known in part", s, at(1, 4, "\U0001F600"))
	checkWaiting(t, "known in part", s, 1)

	s.Wait(at(1, 5, "xy"))
	s.Wait(at(1, 7, "z"))
	s.Wait(embed(2, 1))
	checkWaiting(t, "more waits", s, 5)
	s.Add(at(1, 4, "\U0001F600xyz"))
	checkWaiting(t, "wholly known", s, 2)
	checkOps(t, "Add", s.Add(embed(2, 1)), embed(2, 1))
	checkWaiting(t, "wholly known", s, 1)
	checkNext(t, "wholly known: the next one is another client's", s, at(4, 1, "z"))
	checkWaiting(t, "wholly known", s, 0)

	s.Wait(at(1, 9, "q"))
	s.Add(at(1, 8, "pqr"))
	checkWaiting(t, "wholly known, nothing behind", s, 0)
	checkNoNext(t, "wholly known, nothing behind", s)
	checkWaiting(t, "wholly known, nothing behind", s, 0)

	s.Wait(at(1, 11, "s"))
	s.Wait(at(1, 12, "tu"))
	s.Add(at(1, 11, "st"))
	checkWaiting(t, "the next one is the same client's", s, 1)
	checkNext(t, "the next one is the same client's", s, at(1, 13, "u"))
	checkWaiting(t, "the next one is the same client's", s, 0)
}

// TestP10_2WaitingBehindNext: what Next took doesn't wait, so that an Add of it lowers nothing; what of it came to wait once more meanwhile does.
func TestP10_2WaitingBehindNext(t *testing.T) {
	s := store.New()
	s.Wait(at(1, 1, "abc"))
	s.Wait(at(1, 6, "f"))
	checkNext(t, "the first", s, at(1, 1, "abc"))
	checkWaiting(t, "taken", s, 1)
	s.Wait(at(1, 2, "b"))
	checkWaiting(t, "once more", s, 2)
	checkNoNext(t, "clock 1 isn't known", s)
	s.Add(at(1, 1, "a"))
	checkWaiting(t, "clock 1 is known", s, 2)
	s.Add(at(1, 2, "b"))
	checkWaiting(t, "clock 2 is known", s, 1)
	s.Add(at(1, 1, "abc"))
	checkWaiting(t, "clock 3 is known", s, 1)
	checkNoNext(t, "clock 5 isn't known", s)
	s.Add(at(1, 4, "de"))
	checkNext(t, "clock 5 is known", s, at(1, 6, "f"))
	checkWaiting(t, "all taken", s, 0)
	s.Add(at(1, 6, "f"))
	checkWaiting(t, "all known", s, 0)
}

// TestP10_2ReadyNoMore: of many clients of whom one waits, those whose one has become known, by whichever order, aren't told by Next.
func TestP10_2ReadyNoMore(t *testing.T) {
	const n = 1000
	for _, left := range []uint64{1, 2, 3, 64, 65, n} { // each so many-th is left
		s := store.New()
		for client := uint64(1); client <= n; client++ {
			s.Wait(at(client, 1, "a"))
		}
		waiting := n
		for i := range uint64(n) {
			if client := i*7%n + 1; client%left > 0 {
				s.Add(at(client, 1, "ab"))
				waiting--
			}
			checkWaiting(t, "some are known", s, waiting)
		}
		for client := left; client <= n; client += left {
			checkNext(t, "those left", s, at(client, 1, "a"))
		}
		checkNoNext(t, "all taken", s)
		checkWaiting(t, "all taken", s, 0)
		for client := uint64(1); client <= n; client++ {
			s.Wait(at(client, 3, "c"))
		}
		if o, ok := s.Next(); ok != (left > 1) || ok && o.Id != id(1, 3) {
			t.Fatalf("ready again: %v, %v", told(o), ok)
		}
	}
}

// TestP10_2NextMakesNothingKnown: what Next told may come to wait again.
func TestP10_2NextMakesNothingKnown(t *testing.T) {
	s := of(t, at(1, 1, "a"))
	for range 3 {
		s.Wait(at(1, 2, "bc"))
		s.Wait(at(1, 4, "d"))
		s.Wait(at(2, 1, "x"))
		checkNext(t, "Next", s, at(1, 2, "bc"))
		checkNext(t, "Next", s, at(2, 1, "x"))
		checkNoNext(t, "Next", s)
		checkWaiting(t, "Next", s, 1)
		checkKnown(t, "Next", s, api.Clock{Client: 1, Clock: 1})
		checkOps(t, "Next", s.Since(nil), at(1, 1, "a"))
		checkNothing(t, s, id(1, 2))
		checkNothing(t, s, id(2, 1))
	}
	checkOps(t, "Add", s.Add(at(1, 2, "b")), at(1, 2, "b"))
	checkNoNext(t, "clock 3 has been taken, but isn't known", s)
}

func TestP10_3Pieces(t *testing.T) {
	for seed := range int64(150) {
		r := rand.New(rand.NewSource(seed))
		var all, told []api.Op
		want := map[api.Id]int{}
		for _, client := range []uint64{1, 2, 50, top} {
			l := line(client, uint64(r.Intn(60)), r.Intn)
			for i, o := range l {
				if i > 0 && o.Id.Clock != ops.Range(l[i-1]).To {
					t.Fatalf("the test's own line has gaps")
				}
				for k := range ops.Len(o) {
					want[one(o, k).Id] = 1
					told = append(told, one(o, k)) // so that nothing is left out
				}
				for range 3 {
					told = append(told, piece(o, r.Intn))
				}
			}
			all = append(all, l...)
		}
		r.Shuffle(len(told), func(i, j int) { told[i], told[j] = told[j], told[i] })
		s := store.New()
		got, last := map[api.Id]int{}, map[uint64]uint64{}
		every := 1 + r.Intn(20)
		for i, o := range told {
			s.Wait(o)
			if i%every > 0 && i < len(told)-1 {
				continue
			}
			for _, o := range drain(t, s) {
				if o.Id.Clock != last[o.Id.Client]+1 {
					t.Fatalf("seed %d: %v comes behind %d", seed, o, last[o.Id.Client])
				}
				for k := range ops.Len(o) {
					got[one(o, k).Id]++
					last[o.Id.Client]++
				}
			}
		}
		for x, n := range want {
			if got[x] != n {
				t.Fatalf("seed %d: %v came %d times", seed, x, got[x])
			}
		}
		if len(got) != len(want) || s.Waiting() != 0 {
			t.Fatalf("seed %d: %d ids came, not %d; %d wait", seed, len(got), len(want), s.Waiting())
		}
		checkOps(t, "Since", s.Since(nil), ops.Join(all)...)
	}
}

// TestP10_3ManyWait: more than a search through all could bear, in orders that are hard to keep.
func TestP10_3ManyWait(t *testing.T) {
	const n = 60000
	orders := map[string]func(i int) uint64{
		"forwards":  func(i int) uint64 { return uint64(i) + 1 },
		"backwards": func(i int) uint64 { return uint64(n - i) },
		"mixed":     func(i int) uint64 { return uint64(i)*7919%n + 1 },
	}
	for what, order := range orders {
		s := store.New()
		for i := range n {
			if x := order(i); x > 1 {
				s.Wait(at(1, x, "€"))
			}
		}
		checkWaiting(t, what, s, n-1)
		checkNoNext(t, what, s)
		s.Wait(at(1, 1, "€"))
		if l := drain(t, s); len(l) != n || !slices.IsSortedFunc(l, func(a, b api.Op) int { return int(a.Id.Clock) - int(b.Id.Clock) }) {
			t.Fatalf("%s: %d came", what, len(l))
		}
		checkWaiting(t, what, s, 0)
		all := s.Since(nil)
		if len(all) != (n+full-1)/full || !exact(all[0], at(1, 1, strings.Repeat("€", full))) {
			t.Fatalf("%s: Since: %d: %v", what, len(all), told(all...))
		}
	}
	for what, order := range orders {
		s := store.New()
		for i := range n {
			s.Wait(at(order(i), 1, "a"))
		}
		for client := uint64(1); client <= n; client++ {
			checkNext(t, what, s, at(client, 1, "a"))
			s.Add(at(client, 1, "a"))
		}
		checkNoNext(t, what, s)
		if l := s.Known(); len(l) != n || l[0] != (api.Clock{Client: 1, Clock: 1}) || l[n-1] != (api.Clock{Client: n, Clock: 1}) {
			t.Fatalf("%s: %d clients are known", what, len(l))
		}
	}
}

// TestP10_2ManyBecomeKnown: of a row that waits in many pieces, or in few, Add makes known few, or many, at a time.
func TestP10_2ManyBecomeKnown(t *testing.T) {
	runes := longRow(3*full + 5)
	for _, x := range []struct{ waits, adds int }{{1, full}, {1, 7}, {7, 5}, {full, 1}, {full, full - 1}} {
		s := store.New()
		for to := len(runes); to > 0; to -= x.waits {
			s.Wait(rowPiece(runes, max(0, to-x.waits), to))
		}
		for from := 0; from < len(runes); from += x.adds {
			checkWaiting(t, fmt.Sprint(x), s, len(runes)-from)
			s.Add(rowPiece(runes, from, min(from+x.adds, len(runes))))
		}
		checkWaiting(t, fmt.Sprint(x), s, 0)
		checkNoNext(t, fmt.Sprint(x), s)
		checkOps(t, fmt.Sprint(x), s.Since(nil), rowFrom(runes, 0)...)
	}
}

// TestP10_2WaitOverMany: one text over each second of whose clocks another one waits.
func TestP10_2WaitOverMany(t *testing.T) {
	runes := longRow(full)
	s := store.New()
	for k := 1; k < full; k += 2 {
		s.Wait(rowPiece(runes, k, k+1))
	}
	checkWaiting(t, "each second one", s, full/2)
	for range 3 {
		s.Wait(rowPiece(runes, 0, full))
		checkWaiting(t, "all", s, full)
	}
	for k := range full {
		checkNext(t, "each one", s, rowPiece(runes, k, k+1))
		s.Add(rowPiece(runes, k, k+1))
	}
	checkNoNext(t, "each one", s)
	checkOps(t, "Since", s.Since(nil), rowPiece(runes, 0, full))
}

// TestP10_3UnlikeOnesEnd: of operations of one id that aren't alike nothing is promised but that the calls end and don't panic (DOC.md, rule 12).
func TestP10_3UnlikeOnesEnd(t *testing.T) {
	for seed := range int64(300) {
		r := rand.New(rand.NewSource(seed))
		s := store.New()
		for range 80 {
			client, clock := uint64(1+r.Intn(2)), uint64(1+r.Intn(20))
			o := []api.Op{at(client, clock, "a"), at(client, clock, "ß€\U0001F600"), text(client, clock, id(7, 1), none, "xyzuvw"), embed(client, clock), mark(client, clock), set(client, clock)}[r.Intn(6)]
			if r.Intn(2) == 0 {
				s.Wait(o)
			} else {
				s.Add(o)
			}
			if o, ok := s.Next(); ok && r.Intn(2) == 0 {
				s.Add(o)
			}
			s.Get(o.Id)
			s.Since([]api.Clock{{Client: client, Clock: clock}})
		}
		for _, ok := s.Next(); ok; _, ok = s.Next() {
		}
		s.Since(s.Known())
	}
}
