package wal_test

import (
	"math/rand"
	"slices"
	"strings"
	"testing"

	"quire/api"
	"quire/disk"
	"quire/wal"
)

// life: a log, and what it was told.
type life struct {
	d       *disk.Disk
	l       *wal.Log
	segment int
	all     []string // since the last Restart
	safe    int      // so many of them are synced
	sure    int      // so many of them are there, if there was no crash; one more may be
	begun   []string // the record of a Restart that answered ErrDiskDead
}

func newLife(t *testing.T, segment int) *life {
	t.Helper()
	d := disk.New(plenty)
	l, _ := open(t, d, segment)
	return &life{d: d, l: l, segment: segment}
}

// copied: a life of the same, on a disk of its own.
func (v *life) copied() *life {
	c := *v
	c.d, c.l = v.d.Copy(), nil
	c.all, c.begun = slices.Clone(v.all), slices.Clone(v.begun)
	return &c
}

func (v *life) append(t *testing.T, x string) api.Errno {
	t.Helper()
	e := v.l.Append([]byte(x))
	switch {
	case len(x) > api.MaxBytes:
		checkErr(t, "Append of too much", e, api.ErrWalBig)
	case e == api.OK:
		v.all = append(v.all, x)
		v.sure++
	case e == api.ErrDiskDead:
		v.all = append(v.all, x)
	case e != api.ErrDiskFull:
		t.Fatalf("Append: %d", e)
	}
	return e
}

func (v *life) sync(t *testing.T) api.Errno {
	t.Helper()
	e := v.l.Sync()
	if e == api.OK {
		v.safe = v.sure
	} else if e != api.ErrDiskDead {
		t.Fatalf("Sync: %d", e)
	}
	return e
}

func (v *life) restart(t *testing.T, x string) api.Errno {
	t.Helper()
	e := v.l.Restart([]byte(x))
	switch e {
	case api.OK:
		v.all, v.safe, v.sure = []string{x}, 1, 1
		if n := logFiles(crashed(v.d)); n != 1 {
			t.Fatalf("Restart: %d files", n)
		}
	case api.ErrDiskDead:
		v.begun = append(v.begun, x)
	case api.ErrDiskFull:
	default:
		t.Fatalf("Restart: %d", e)
	}
	return e
}

// may: whether Open may find these behind a crash.
func (v *life) may(found []string) bool {
	if len(found) == 1 && slices.Contains(v.begun, found[0]) {
		return true
	}
	n := len(found)
	return n >= v.safe && n <= len(v.all) && slices.Equal(found, v.all[:n])
}

// open opens the log anew: behind it what was found is what there is, for good.
func (v *life) open(t *testing.T, what string) api.Errno {
	t.Helper()
	l, found, e := wal.Open(v.d, "log", v.segment)
	if e != api.OK {
		checkErr(t, what, e, api.ErrDiskDead)
		if l != nil || found != nil {
			t.Fatalf("%s: %v, %q beside an error", what, l, found)
		}
		return e
	}
	var texts []string
	for _, b := range found {
		texts = append(texts, string(b))
	}
	if !v.may(texts) {
		t.Fatalf("%s: %s; %d of %s are synced, begun:%s", what, short(texts), v.safe, short(v.all), short(v.begun))
	}
	v.l, v.all, v.safe, v.sure, v.begun = l, texts, len(texts), len(texts), nil
	checkLive(t, v)
	return e
}

// checkLive: what a log with power tells of itself.
func checkLive(t *testing.T, v *life) {
	t.Helper()
	if v.d.Dead() {
		return
	}
	files := logFiles(v.d)
	if v.l.Records() != v.sure || v.l.Segments() != files || v.sure > 0 && files == 0 {
		t.Fatalf("%d records in %d segments, not %d in %d", v.l.Records(), v.l.Segments(), v.sure, files)
	}
}

// logFiles: how many files the disk has of the log.
func logFiles(d *disk.Disk) int {
	n := 0
	for _, name := range d.List() {
		if strings.HasPrefix(name, "log") {
			n++
		}
	}
	return n
}

// checkOn: that the log can be opened, and goes on.
func checkOn(t *testing.T, what string, v *life) {
	t.Helper()
	checkErr(t, what, v.open(t, what), api.OK)
	checkErr(t, what+": it goes on", v.append(t, "more"), api.OK)
	checkErr(t, what+": it goes on", v.sync(t), api.OK)
	v.d.Crash(nil)
	checkErr(t, what+": it went on", v.open(t, what+": it went on"), api.OK)
}

// keeps: what crashes may keep of some files, each of which has at most n unsynced bytes.
func keeps(n int) [][]int {
	var all [][]int
	for k := range n + 1 {
		all = append(all, []int{k, k, k, k, k, k, k, k}, []int{k, 0, k, 0, k, 0, k, 0}, []int{0, k, 0, k, 0, k, 0, k})
	}
	return append(all, nil, []int{plenty, plenty, plenty, plenty, plenty, plenty, plenty, plenty})
}

// dieBehindEach lets the power fail behind each number of calls of a disk that the steps take, and crashes keep whatever they may.
func dieBehindEach(t *testing.T, what string, ahead func(*life), steps func(*life)) {
	t.Helper()
	for n := 0; ; n++ {
		v := newLife(t, 64)
		v.d.Append("foreign", []byte("foreign"))
		ahead(v)
		v.d.Cut(n)
		steps(v)
		dead := v.d.Dead()
		for _, keep := range keeps(80) {
			c := v.copied()
			c.d.Crash(keep)
			checkOn(t, what, c)
		}
		if !dead {
			return
		}
		if n > 100 {
			t.Fatalf("%s: doesn't end", what)
		}
	}
}

func TestP5_4DiesInAppendAndSync(t *testing.T) {
	long := strings.Repeat("l", 60)
	for _, x := range []string{"", "x", long} {
		for _, last := range [][]string{nil, {"a"}, {"a", long}, {long, long, "a"}} {
			for _, synced := range []bool{true, false} {
				dieBehindEach(t, "Append and Sync", func(v *life) {
					for _, y := range last {
						v.append(t, y)
					}
					if synced {
						v.sync(t)
					}
				}, func(v *life) {
					v.append(t, x)
					v.sync(t)
				})
			}
		}
	}
}

func TestP5_4DiesInRestart(t *testing.T) {
	long := strings.Repeat("l", 60)
	for _, x := range []string{"", "x", long} {
		for _, last := range [][]string{nil, {"a"}, {"a", long}, {long, long, "a", long}} {
			for _, again := range []bool{true, false} {
				dieBehindEach(t, "Restart", func(v *life) {
					if again {
						v.restart(t, "begun")
					}
					for _, y := range last {
						v.append(t, y)
					}
				}, func(v *life) {
					v.restart(t, x)
				})
			}
		}
	}
}

// TestP5_4DiesInManyRestarts: what Restarts left of one another doesn't come back, however many there were.
func TestP5_4DiesInManyRestarts(t *testing.T) {
	for n := range 12 {
		v := newLife(t, 64)
		for range 25 {
			v.append(t, "a")
			v.append(t, strings.Repeat("l", 60))
			v.append(t, "b")
			v.d.Cut(n)
			v.restart(t, "s")
			v.d.Crash(nil)
			checkErr(t, "Open", v.open(t, "Open"), api.OK)
		}
	}
}

func TestP5_4DiesInALife(t *testing.T) {
	dieBehindEach(t, "a life", func(*life) {}, func(v *life) {
		for i := range 16 {
			x := string(rune('a'+i)) + strings.Repeat("-", i*17%60)
			v.append(t, x)
			switch i {
			case 2, 5, 13:
				v.sync(t)
			case 8, 9:
				v.restart(t, "s"+x)
			}
		}
	})
}

// TestP5_4DiesInOpen: a crash, and the power fails again while the log is opened.
func TestP5_4DiesInOpen(t *testing.T) {
	long := strings.Repeat("l", 60)
	for first := range 30 {
		for _, keep := range []int{0, 5, 30, plenty} {
			v := newLife(t, 64)
			for _, x := range []string{"a", long, long, "b", long} {
				v.append(t, x)
			}
			v.d.Cut(first)
			v.append(t, "c")
			v.sync(t)
			v.append(t, long)
			v.restart(t, "s"+long)
			v.append(t, "d")
			v.d.Crash([]int{keep, keep, keep, keep, keep, keep})
			for n := range 12 {
				c := v.copied()
				c.d.Cut(n)
				c.open(t, "Open of a disk that dies")
				for _, keep := range []int{0, 7, plenty} {
					again := c.copied()
					again.d.Crash([]int{keep, keep, keep, keep, keep, keep})
					checkOn(t, "Open again", again)
				}
			}
		}
	}
}

// TestP5_4NoGapBetweenSegments: of the segments each may lose what it will: nothing is told behind what is lost.
func TestP5_4NoGapBetweenSegments(t *testing.T) {
	long := strings.Repeat("l", 70)
	d, _ := logOf(t, 64, "a", "b", long, "c", "d", long, "e", "f")
	for _, name := range d.List() { // the same bytes, unsynced
		b, _ := d.Read(name)
		d.Truncate(name, 0)
		d.Append(name, b)
	}
	all := []string{"a", "b", long, "c", "d", long, "e", "f"}
	one := cost(t, 1) + 1
	for first := range 120 {
		for _, others := range []int{0, 1, one, plenty} {
			c := crashed(d, first, others, plenty)
			_, found := open(t, c, 64)
			if n := len(found); n > len(all) || !slices.Equal(found, all[:n]) {
				t.Fatalf("%d bytes of the first: %s", first, short(found))
			}
			v := &life{d: c, segment: 64, all: found, safe: len(found), sure: len(found)}
			checkOn(t, "no gap", v)
		}
	}
}

// walk lives through chance: appends, syncs, new beginnings, rooms, failures of the power, crashes.
func walk(t *testing.T, steps int, next func(int) int) {
	v := newLife(t, next(200))
	v.d.Append("aforeign", []byte("foreign"))
	v.d.Append("zforeign", []byte("foreign"))
	for range steps {
		x := strings.Repeat(string(rune('a'+next(26))), next(90))
		switch k := next(20); {
		case k < 9:
			v.append(t, x)
		case k < 12:
			v.sync(t)
		case k < 13:
			v.restart(t, x)
		case k < 14:
			v.d.Cut(next(12))
		case k < 15:
			v.d.Room(next(600))
		case k < 17:
			v.d.Room(plenty)
		case k < 18:
			v.segment = next(200)
			v.open(t, "Open")
		default:
			lose(t, v, next)
		}
		checkTold(t, v)
	}
	v.d.Crash(nil)
	v.d.Room(plenty)
	checkOn(t, "the end", v)
}

// lose crashes the disk, and opens the log anew, at times on a disk that dies again.
func lose(t *testing.T, v *life, next func(int) int) {
	for deaths := next(3); ; deaths-- {
		keep := make([]int, next(8))
		for i := range keep {
			keep[i] = next(100)
		}
		v.d.Crash(keep)
		if deaths > 0 {
			v.d.Cut(next(6))
		}
		if v.open(t, "Open behind a crash") == api.OK {
			return
		}
	}
}

// checkTold: what a copy of the disk tells of the life, crashed or not.
func checkTold(t *testing.T, v *life) {
	t.Helper()
	for _, keep := range [][]int{nil, {plenty, plenty, plenty, plenty}} {
		c := v.copied()
		c.d.Crash(keep)
		checkErr(t, "behind a step", c.open(t, "behind a step"), api.OK)
	}
	if v.d.Dead() || len(v.begun) > 0 || v.sure < len(v.all) {
		return
	}
	c := v.copied()
	c.d.Cut(-1)
	c.safe = c.sure
	checkErr(t, "without a crash", c.open(t, "without a crash"), api.OK)
}

func TestP5_4Lives(t *testing.T) {
	for seed := range int64(300) {
		r := rand.New(rand.NewSource(seed))
		walk(t, 60, r.Intn)
	}
}

func FuzzP5_4Walk(f *testing.F) {
	f.Add([]byte("a life that is told by these bytes, one a choice"))
	f.Fuzz(func(t *testing.T, b []byte) {
		steps := min(len(b)/3, 100)
		walk(t, steps, func(n int) int {
			if len(b) == 0 {
				return 0
			}
			x := int(b[0]) % n
			b = b[1:]
			return x
		})
	})
}

// laid: a copy of the disk in which the file has these bytes.
func laid(d *disk.Disk, name string, b []byte) *disk.Disk {
	c := d.Copy()
	c.Truncate(name, 0)
	c.Append(name, b)
	return c
}

// checkBeginning: that Open finds a beginning of all, and at most so many, that it goes on, and that this is for good.
func checkBeginning(t *testing.T, what string, d *disk.Disk, most int, all ...string) {
	t.Helper()
	l, found := open(t, d, 64)
	n := len(found)
	if n > most || !slices.Equal(found, all[:n]) {
		t.Fatalf("%s: %s", what, short(found))
	}
	if l.Segments() != len(d.List()) {
		t.Fatalf("%s: %d segments in %d files", what, l.Segments(), len(d.List()))
	}
	checkSynced(t, what, d, found...)
	appendAll(t, l, "more", "and more")
	checkErr(t, what, l.Sync(), api.OK)
	checkSynced(t, what, d, append(found, "more", "and more")...)
}

// changedLog: a log of several segments, whose files go by their order, and its records.
func changedLog(t *testing.T) (*disk.Disk, []string) {
	t.Helper()
	all := []string{"s", "first", "second", strings.Repeat("t", 70), "", "fifth", strings.Repeat("u", 60), "last"}
	d := disk.New(plenty)
	l, _ := open(t, d, 64)
	appendAll(t, l, "old", strings.Repeat("old", 50))
	checkErr(t, "Restart", l.Restart([]byte(all[0])), api.OK)
	appendAll(t, l, all[1:]...)
	checkErr(t, "Sync", l.Sync(), api.OK)
	if l.Segments() != 3 {
		t.Fatalf("%d segments", l.Segments())
	}
	return d, all
}

// whole: how many records are told of a log whose file ends behind n bytes, and those behind it are gone.
func whole(t *testing.T, d *disk.Disk, name string, n int) int {
	t.Helper()
	c := d.Copy()
	for _, x := range d.List() {
		if x > name {
			c.Delete(x)
		}
	}
	c.Truncate(name, n)
	_, found := open(t, c, 64)
	return len(found)
}

func TestP5_5ChangedBytes(t *testing.T) {
	d, all := changedLog(t)
	for _, name := range d.List() {
		b, _ := d.Read(name)
		for i := range b {
			most := whole(t, d, name, i)
			for bit := range 8 {
				x := slices.Clone(b)
				x[i] ^= 1 << bit
				checkBeginning(t, "a bit is changed", laid(d, name, x), most, all...)
			}
			for _, c := range []byte{0, 0x7F, 0x80, 0xFF, b[i] + 1} {
				x := slices.Clone(b)
				x[i] = c
				if c != b[i] {
					checkBeginning(t, "a byte is changed", laid(d, name, x), most, all...)
				}
			}
			checkBeginning(t, "a byte is gone", laid(d, name, slices.Delete(slices.Clone(b), i, i+1)), len(all)-1, all...)
			checkBeginning(t, "a byte is more", laid(d, name, slices.Insert(slices.Clone(b), i, 0)), len(all)-1, all...)
		}
	}
}

func TestP5_5CutSegments(t *testing.T) {
	d, all := changedLog(t)
	for _, name := range d.List() {
		b, _ := d.Read(name)
		for n := range b {
			checkBeginning(t, "a segment is cut", laid(d, name, b[:n]), whole(t, d, name, n), all...)
		}
		c := d.Copy()
		c.Delete(name)
		checkBeginning(t, "a segment is gone", c, len(all)-1, all...)
	}
}

func TestP5_5BytesBehind(t *testing.T) {
	d, all := changedLog(t)
	names := d.List()
	last := names[len(names)-1]
	b, _ := d.Read(last)
	for _, tail := range [][]byte{{0}, make([]byte, 100), b, []byte("junk that is no record"), {0, 0, 0, 0, 0, 0, 0, 0, 0xFF, 0xFF, 0xFF, 0xFF, 0xFF, 0xFF, 0xFF, 0xFF, 0xFF, 1}} {
		checkBeginning(t, "bytes behind the last one", laid(d, last, append(slices.Clone(b), tail...)), len(all), all...)
		if n := whole(t, laid(d, last, append(slices.Clone(b), tail...)), last, plenty); n != len(all) {
			t.Errorf("%d records are left, not %d", n, len(all))
		}
	}
}

// TestP5_5RecordsElsewhere: records that are whole, but not where they were appended.
func TestP5_5RecordsElsewhere(t *testing.T) {
	d, l := logOf(t, 1<<20, "a")
	name := d.List()[0]
	one, _ := d.Read(name)
	appendAll(t, l, "b")
	both, _ := d.Read(name)
	other := both[len(one):]
	checkBeginning(t, "the second alone", laid(d, name, other), 0, "a", "b")
	checkBeginning(t, "turned round", laid(d, name, append(slices.Clone(other), one...)), 0, "a", "b")
	checkBeginning(t, "twice", laid(d, name, append(slices.Clone(one), one...)), 1, "a", "b")
	checkErr(t, "Restart", l.Restart([]byte("s")), api.OK)
	checkBeginning(t, "of ahead of the Restart", laid(d, d.List()[0], both), 0, "s")
}

func TestP5_5SegmentsElsewhere(t *testing.T) {
	d, all := changedLog(t)
	names := d.List()
	for _, x := range names {
		for _, y := range names {
			if x == y {
				continue
			}
			bx, _ := d.Read(x)
			by, _ := d.Read(y)
			checkBeginning(t, "one twice", laid(d, x, by), len(all)-1, all...)
			checkBeginning(t, "two turned round", laid(laid(d, x, by), y, bx), len(all)-1, all...)
			c := d.Copy()
			c.Rename(x, y)
			checkBeginning(t, "one in another's place", c, len(all)-1, all...)
		}
	}
}

func TestP5_5AnotherLogsBytes(t *testing.T) {
	d := disk.New(plenty)
	a, _ := openNamed(t, d, "a", 64)
	b, _ := openNamed(t, d, "b", 64)
	appendAll(t, a, "of a")
	mine := d.List()
	appendAll(t, b, "of b")
	for _, name := range d.List() {
		if name != mine[0] {
			d.Rename(name, mine[0])
		}
	}
	_, found := openNamed(t, d, "a", 64)
	checkRecords(t, "another log's bytes", found)
}
