package wal_test

import (
	"bytes"
	"math"
	"slices"
	"strings"
	"testing"

	"quire/api"
	"quire/disk"
	"quire/wal"
)

// plenty: a room that no test fills by chance.
const plenty = 1 << 30

// open: the log "log" of the disk, and the records that were found.
func open(t *testing.T, d *disk.Disk, segment int) (*wal.Log, []string) {
	t.Helper()
	return openNamed(t, d, "log", segment)
}

func openNamed(t *testing.T, d *disk.Disk, name string, segment int) (*wal.Log, []string) {
	t.Helper()
	l, found, e := wal.Open(d, name, segment)
	if e != api.OK || l == nil {
		t.Fatalf("Open %q: %d", name, e)
	}
	texts := make([]string, len(found))
	for i, b := range found {
		texts[i] = string(b)
	}
	if l.Records() != len(texts) {
		t.Fatalf("Open %q: %d records, but Records: %d", name, len(texts), l.Records())
	}
	return l, texts
}

// logOf: a log with these records on a new disk, none of them synced but by the log's own doing.
func logOf(t *testing.T, segment int, records ...string) (*disk.Disk, *wal.Log) {
	t.Helper()
	d := disk.New(plenty)
	l, _ := open(t, d, segment)
	appendAll(t, l, records...)
	return d, l
}

func appendAll(t *testing.T, l *wal.Log, records ...string) {
	t.Helper()
	for _, x := range records {
		checkErr(t, "Append", l.Append([]byte(x)), api.OK)
	}
}

func checkErr(t *testing.T, what string, got, want api.Errno) {
	t.Helper()
	if got != want {
		t.Errorf("%s: %d, not %d", what, got, want)
	}
}

// checkRecords: that these were told, and no others.
func checkRecords(t *testing.T, what string, got []string, want ...string) {
	t.Helper()
	if !slices.Equal(got, want) {
		t.Fatalf("%s: %s, not %s", what, short(got), short(want))
	}
}

// short: the records, of the long ones their beginnings and lengths alone.
func short(records []string) string {
	var w strings.Builder
	for _, x := range records {
		if len(x) > 20 {
			x = x[:20] + ".."
		}
		w.WriteString(" [" + x + "]")
	}
	return w.String()
}

// checkFound: what Open finds on a copy of the disk.
func checkFound(t *testing.T, what string, d *disk.Disk, want ...string) {
	t.Helper()
	_, got := open(t, d.Copy(), 64)
	checkRecords(t, what, got, want...)
}

// checkSynced: that Open finds these on a copy of the disk behind a crash that keeps nothing.
func checkSynced(t *testing.T, what string, d *disk.Disk, want ...string) {
	t.Helper()
	checkFound(t, what, crashed(d), want...)
}

// checkCounts: what Records and Segments tell; the segments are all files of the disk.
func checkCounts(t *testing.T, what string, l *wal.Log, d *disk.Disk, records int) {
	t.Helper()
	if l.Records() != records || l.Segments() != len(d.List()) {
		t.Errorf("%s: %d records in %d segments, not %d in %d", what, l.Records(), l.Segments(), records, len(d.List()))
	}
	if records > 0 && l.Segments() < 1 {
		t.Errorf("%s: records, but no segments", what)
	}
}

// crashed: a copy of the disk behind a crash.
func crashed(d *disk.Disk, keep ...int) *disk.Disk {
	c := d.Copy()
	c.Crash(keep)
	return c
}

// files: names and bytes of all files.
func files(d *disk.Disk) []string {
	var all []string
	for _, name := range d.List() {
		b, _ := d.Read(name)
		all = append(all, name, string(b))
	}
	return all
}

// sizes: how many bytes the files have, as often as there are files, in no order that a name tells.
func sizes(d *disk.Disk) []int {
	var all []int
	for _, name := range d.List() {
		b, _ := d.Read(name)
		all = append(all, len(b))
	}
	slices.Sort(all)
	return all
}

// cost: how many bytes a disk has of a record beside those of the record.
func cost(t *testing.T, n int) int {
	t.Helper()
	d, _ := logOf(t, 64, strings.Repeat("x", n))
	return d.Used() - n
}

func TestP5_1OpenOfNothing(t *testing.T) {
	d := disk.New(0)
	l, found := open(t, d, 64)
	checkRecords(t, "a new log", found)
	checkCounts(t, "a new log", l, d, 0)
	checkErr(t, "Sync of nothing", l.Sync(), api.OK)
	checkErr(t, "Append without room", l.Append(nil), api.ErrDiskFull)
	checkErr(t, "Restart without room", l.Restart(nil), api.ErrDiskFull)
	checkCounts(t, "a new log without room", l, d, 0)
	d.Room(plenty)
	appendAll(t, l, "a")
	checkCounts(t, "the first record", l, d, 1)
	checkFound(t, "the first record", d, "a")
}

func TestP5_1AppendStandsBehindAll(t *testing.T) {
	d, l := logOf(t, 64)
	var all []string
	for i := range 50 {
		x := strings.Repeat(string(rune('a'+i%26)), i)
		all = append(all, x)
		appendAll(t, l, x)
		checkCounts(t, "Append", l, d, i+1)
		checkFound(t, "Append", d, all...)
	}
	for _, segment := range []int{math.MinInt, 0, 64, 100, 1 << 20, math.MaxInt} {
		l, found := open(t, d.Copy(), segment)
		checkRecords(t, "whatever the segments", found, all...)
		checkCounts(t, "whatever the segments", l, d, 50)
	}
}

func TestP5_1OpenedAnewItGoesOn(t *testing.T) {
	d := disk.New(plenty)
	var all []string
	for i := range 40 {
		l, found := open(t, d, []int{64, 200, 0, 1 << 20}[i%4])
		checkRecords(t, "opened anew", found, all...)
		checkCounts(t, "opened anew", l, d, len(all))
		for range i % 3 {
			x := strings.Repeat("y", len(all)*7%60)
			all = append(all, x)
			appendAll(t, l, x)
		}
	}
}

// TestP5_1SegmentsAreClosed: whatever the records, a new file is begun if the last one has as many bytes as a segment takes, and only then.
func TestP5_1SegmentsAreClosed(t *testing.T) {
	for segment, limit := range map[int]int{
		math.MinInt: 64, -1: 64, 0: 64, 1: 64, 63: 64, 64: 64, 65: 65, 100: 100, 1000: 1000,
	} {
		d, l := logOf(t, segment)
		for i, last := 0, 0; i < 120; i++ {
			fresh, used := i == 0 || last >= limit, d.Used()
			segments := l.Segments()
			appendAll(t, l, strings.Repeat("z", i*11%70))
			if fresh {
				segments, last = segments+1, 0
			}
			last += d.Used() - used
			if l.Segments() != segments {
				t.Fatalf("segment %d: record %d: %d segments, not %d", segment, i, l.Segments(), segments)
			}
			if !slices.Contains(sizes(d), last) {
				t.Fatalf("segment %d: record %d: no file of %d bytes", segment, i, last)
			}
			checkCounts(t, "segments", l, d, i+1)
		}
	}
}

// TestP5_1SegmentHasJustSoMany: one byte less leaves it open, so many close it.
func TestP5_1SegmentHasJustSoMany(t *testing.T) {
	for segment, limit := range map[int]int{0: 64, 63: 64, 64: 64, 65: 65, 90: 90} {
		for more, segments := range map[int]int{-2: 1, -1: 1, 0: 2, 1: 2} {
			n := limit + more
			x := strings.Repeat("x", n-cost(t, n/2))
			d, l := logOf(t, segment, x)
			if d.Used() != n || l.Segments() != 1 {
				t.Fatalf("%d bytes in %d segments, not %d in 1", d.Used(), l.Segments(), n)
			}
			opened, _ := open(t, d.Copy(), segment)
			again := d.Copy()
			anew, _ := open(t, again, segment)
			appendAll(t, l, "")
			if l.Segments() != segments {
				t.Errorf("segment %d: behind %d bytes: %d segments, not %d", segment, n, l.Segments(), segments)
			}
			checkCounts(t, "just so many", l, d, 2)
			checkErr(t, "Restart", opened.Restart([]byte(x)), api.OK)
			appendAll(t, opened, "")
			if opened.Segments() != segments {
				t.Errorf("segment %d: behind a Restart of %d bytes: %d segments, not %d", segment, n, opened.Segments(), segments)
			}
			appendAll(t, anew, "")
			if anew.Segments() != segments {
				t.Errorf("segment %d: %d bytes, opened anew: %d segments, not %d", segment, n, anew.Segments(), segments)
			}
			checkFound(t, "just so many", again, x, "")
		}
	}
}

func TestP5_1SizesOfRecords(t *testing.T) {
	most := strings.Repeat("m", api.MaxBytes)
	for _, segment := range []int{0, 1 << 20, api.MaxFile - 1, api.MaxFile, math.MaxInt} {
		d, l := logOf(t, segment)
		var all []string
		for _, x := range []string{"", most, "", "", most, most, "a", most, most, ""} {
			all = append(all, x)
			appendAll(t, l, x)
			ahead := files(d)
			checkErr(t, "one more", l.Append(make([]byte, api.MaxBytes+1)), api.ErrWalBig)
			checkErr(t, "one more", l.Restart(make([]byte, api.MaxBytes+1)), api.ErrWalBig)
			if !slices.Equal(files(d), ahead) {
				t.Fatal("a record that was refused is there")
			}
			checkCounts(t, "sizes", l, d, len(all))
		}
		checkFound(t, "sizes", d, all...)
		checkErr(t, "Restart", l.Restart([]byte(most)), api.OK)
		checkSynced(t, "Restart", d, most)
	}
}

// TestP5_1FilesHaveAnEnd: a file takes MaxFile bytes, and no segment goes beyond that, however great it may be.
func TestP5_1FilesHaveAnEnd(t *testing.T) {
	most := strings.Repeat("m", api.MaxBytes)
	rest := api.MaxFile - 3*(api.MaxBytes+cost(t, api.MaxBytes))
	for more, segments := range map[int]int{-1: 1, 0: 1, 1: 2} {
		last := strings.Repeat("l", rest-cost(t, rest)+more)
		d, l := logOf(t, math.MaxInt, most, most, most, last)
		if l.Segments() != segments {
			t.Errorf("%d bytes: %d segments, not %d", d.Used(), l.Segments(), segments)
		}
		appendAll(t, l, "a")
		checkCounts(t, "the end of a file", l, d, 5)
		if l.Segments() != 2 {
			t.Errorf("%d bytes: %d segments, not 2", d.Used(), l.Segments())
		}
		checkErr(t, "Sync", l.Sync(), api.OK)
		checkSynced(t, "the end of a file", d, most, most, most, last, "a")
	}
}

func TestP5_1Sync(t *testing.T) {
	d, l := logOf(t, 64, "a", "b")
	checkSynced(t, "ahead of Sync", d)
	checkErr(t, "Sync", l.Sync(), api.OK)
	checkErr(t, "Sync again", l.Sync(), api.OK)
	checkSynced(t, "behind Sync", d, "a", "b")
	appendAll(t, l, "c")
	checkSynced(t, "c isn't synced", d, "a", "b")
	all := []string{"a", "b", "c"}
	for i := range 30 {
		x := strings.Repeat("d", i)
		all = append(all, x)
		appendAll(t, l, x)
	}
	checkErr(t, "Sync of many segments", l.Sync(), api.OK)
	checkSynced(t, "Sync of many segments", d, all...)
}

func TestP5_1OpenSyncs(t *testing.T) {
	d, _ := logOf(t, 64, "a", "b")
	open(t, d, 64)
	checkSynced(t, "one segment", d, "a", "b")

	long := strings.Repeat("l", 64)
	d, _ = logOf(t, 64, "a"+long, "b"+long, "c"+long)
	for _, name := range d.List() { // the same bytes, unsynced
		b, _ := d.Read(name)
		d.Truncate(name, 0)
		d.Append(name, b)
	}
	open(t, d, 64)
	checkSynced(t, "three segments", d, "a"+long, "b"+long, "c"+long)
}

// TestP5_1DiskIsFull: whatever room is too small, all is as it was ahead of Append and Restart, and goes on once there is room.
func TestP5_1DiskIsFull(t *testing.T) {
	for _, x := range []string{"", "x", strings.Repeat("x", 54), strings.Repeat("x", 200)} {
		for _, last := range []string{"", strings.Repeat("y", 100)} { // the segment is open, or closed
			d, l := logOf(t, 64, "a", last)
			checkErr(t, "Sync", l.Sync(), api.OK)
			appendAll(t, l, "c")
			ahead, segments := files(d), l.Segments()
			for room := range len(x) + cost(t, len(x)) {
				d.Room(d.Used() + room)
				checkErr(t, "Append", l.Append([]byte(x)), api.ErrDiskFull)
				checkErr(t, "Restart", l.Restart([]byte(x)), api.ErrDiskFull)
				if !slices.Equal(files(d), ahead) || l.Segments() != segments {
					t.Fatalf("room for %d bytes: files %q in %d segments, not %q", room, files(d), l.Segments(), ahead)
				}
				checkCounts(t, "full", l, d, 3)
				checkFound(t, "full", d, "a", last, "c")
				checkErr(t, "Sync of a full disk", l.Sync(), api.OK)
				checkSynced(t, "full", d, "a", last, "c")
			}
			c := d.Copy()
			restarted, _ := open(t, c, 64) // a full disk is opened as any other
			for _, d := range []*disk.Disk{c, d} {
				d.Room(d.Used() + len(x) + cost(t, len(x)))
			}
			appendAll(t, l, x)
			checkFound(t, "there is room", d, "a", last, "c", x)
			checkErr(t, "there is room for a Restart", restarted.Restart([]byte(x)), api.OK)
			checkFound(t, "there is room for a Restart", c, x)
		}
	}
}

func TestP5_1FullOnceTheSegmentIsClosed(t *testing.T) {
	closing := strings.Repeat("y", 100)
	d, l := logOf(t, 64, "a", closing)
	ahead := files(d)
	for room := range cost(t, 5) + 5 {
		d.Room(d.Used() + room)
		checkErr(t, "Append", l.Append([]byte("fifth")), api.ErrDiskFull)
		if !slices.Equal(files(d), ahead) || l.Segments() != 1 {
			t.Fatalf("room for %d bytes: files %q in %d segments", room, files(d), l.Segments())
		}
	}
	d.Room(plenty)
	appendAll(t, l, "fifth")
	checkCounts(t, "there is room", l, d, 3)
	checkFound(t, "there is room", d, "a", closing, "fifth")
}

// TestP5_1FullThenDead: the power may go with what takes a refused record back.
func TestP5_1FullThenDead(t *testing.T) {
	for _, last := range []string{"a", strings.Repeat("a", 64)} {
		for n := 1; n < 5; n++ {
			for _, call := range []func(*wal.Log, []byte) api.Errno{(*wal.Log).Append, (*wal.Log).Restart} {
				d, l := logOf(t, 64, last)
				checkErr(t, "Sync", l.Sync(), api.OK)
				d.Room(d.Used() + cost(t, 50))
				d.Cut(n)
				e := call(l, make([]byte, 50))
				if e != api.ErrDiskFull && (e != api.ErrDiskDead || !d.Dead()) {
					t.Errorf("%d calls: %d", n, e)
				}
				d.Room(plenty)
				for _, keep := range []int{0, 3, plenty} {
					checkFound(t, "full, then dead", crashed(d, keep, keep, keep), last)
				}
			}
		}
	}
}

func TestP5_1Dead(t *testing.T) {
	d, l := logOf(t, 64, "a")
	checkErr(t, "Sync", l.Sync(), api.OK)
	calls := func(l *wal.Log) []api.Errno {
		big := make([]byte, api.MaxBytes+1)
		return []api.Errno{l.Append(nil), l.Sync(), l.Restart(nil), l.Append(big), l.Restart(big)}
	}
	d.Cut(0)
	empty := disk.New(plenty)
	none, _ := open(t, empty, 64)
	empty.Cut(0)
	for range 2 {
		for _, e := range append(calls(l), calls(none)...) {
			checkErr(t, "a call of a dead disk", e, api.ErrDiskDead)
		}
	}
	for _, d := range []*disk.Disk{d, empty} {
		if l, found, e := wal.Open(d, "log", 64); e != api.ErrDiskDead || l != nil || found != nil {
			t.Errorf("Open of a dead disk: %v, %v, %d", l, found, e)
		}
		d.Crash(nil)
	}
	for _, e := range append(calls(l), calls(none)...) {
		checkErr(t, "a call till it is opened anew", e, api.ErrDiskDead)
	}
	checkCounts(t, "dead", l, d, 1)
	anew, found := open(t, d, 64)
	checkRecords(t, "opened anew", found, "a")
	appendAll(t, anew, "b")
	checkErr(t, "Sync, opened anew", anew.Sync(), api.OK)
	checkErr(t, "the old one", l.Append(nil), api.ErrDiskDead)
	checkSynced(t, "opened anew", d, "a", "b")
}

// TestP5_1EachCallStaysDead: whichever call was the first to answer ErrDiskDead.
func TestP5_1EachCallStaysDead(t *testing.T) {
	for _, call := range []func(l *wal.Log) api.Errno{
		func(l *wal.Log) api.Errno { return l.Append([]byte("b")) },
		func(l *wal.Log) api.Errno { return l.Append(make([]byte, api.MaxBytes+1)) },
		(*wal.Log).Sync,
		func(l *wal.Log) api.Errno { return l.Restart([]byte("b")) },
	} {
		for n := range 8 {
			d, l := logOf(t, 64, "a")
			d.Cut(n)
			e := call(l)
			d.Crash(nil)
			if n == 0 {
				checkErr(t, "a call without power", e, api.ErrDiskDead)
			}
			if e != api.ErrDiskDead {
				continue
			}
			checkErr(t, "Append", l.Append(nil), api.ErrDiskDead)
			checkErr(t, "Sync", l.Sync(), api.ErrDiskDead)
			checkErr(t, "Restart", l.Restart(nil), api.ErrDiskDead)
		}
	}
}

func TestP5_1NothingIsShared(t *testing.T) {
	d, l := logOf(t, 64)
	room := []byte("0123456789")
	b := room[2:5]
	checkErr(t, "Append", l.Append(b), api.OK)
	checkErr(t, "Sync", l.Sync(), api.OK)
	if string(room) != "0123456789" {
		t.Errorf("Append changed what it was given: %q", room)
	}
	copy(room, "xxxxxxxxxx")
	checkFound(t, "what was given is changed", d, "234")
	c := d.Copy()
	copy(room, "0123456789")
	again, _ := open(t, c, 64)
	checkErr(t, "Restart", again.Restart(b), api.OK)
	if string(room) != "0123456789" {
		t.Errorf("Restart changed what it was given: %q", room)
	}
	copy(room, "xxxxxxxxxx")
	checkFound(t, "what was given is changed", c, "234")

	appendAll(t, l, "", "abc")
	_, found, _ := wal.Open(d, "log", 64)
	for i := range found {
		for k := range found[i] {
			found[i][k] = '!'
		}
		_ = append(found[i], "spare"...)
	}
	if string(found[0]) != "!!!" || len(found[1]) != 0 || string(found[2]) != "!!!" {
		t.Errorf("records share memory: %q", found)
	}
	checkFound(t, "what was answered is changed", d, "234", "", "abc")
}

func TestP5_1TwoLogs(t *testing.T) {
	d := disk.New(plenty)
	names := []string{"a", "aa", "aaaaaaaa", "b", "logs", "z"}
	foreign := []string{"A", "A.0.0", "c", "c.0.0", "c.new", "log", "other"}
	for _, name := range foreign {
		d.Append(name, []byte("foreign"))
	}
	d.Sync("c")
	logs := map[string]*wal.Log{}
	want := map[string][]string{}
	for i := range 120 {
		name := names[i%len(names)]
		l := logs[name]
		if l == nil || i%7 == 0 {
			var found []string
			l, found = openNamed(t, d, name, 64)
			checkRecords(t, "log "+name, found, want[name]...)
			logs[name] = l
		}
		x := name + strings.Repeat("x", i%50)
		if i%40 == 33 {
			checkErr(t, "Restart", l.Restart([]byte(x)), api.OK)
			want[name] = []string{x}
			continue
		}
		appendAll(t, l, x)
		want[name] = append(want[name], x)
	}
	count := len(foreign)
	for _, name := range names {
		l, found := openNamed(t, d, name, 64)
		checkRecords(t, "log "+name, found, want[name]...)
		count += l.Segments()
	}
	if len(d.List()) != count {
		t.Errorf("%d files, not %d", len(d.List()), count)
	}
	for _, name := range foreign {
		if b, e := d.Read(name); e != api.OK || string(b) != "foreign" {
			t.Errorf("file %s: %q, %d", name, b, e)
		}
	}
	if d.Crash(nil); !slices.Contains(d.List(), "other") {
		t.Error("a file of others is gone")
	}
	if b, _ := d.Read("other"); len(b) > 0 {
		t.Error("a file of others was synced")
	}
}

// TestP5_1AnyName: nothing is promised of other names, but that the calls end.
func TestP5_1AnyName(t *testing.T) {
	for _, name := range []string{"", ".", "..", "a.0", "A", "\xFF", "nine_long", strings.Repeat("n", 28), strings.Repeat("n", 32), strings.Repeat("n", 99)} {
		d := disk.New(plenty)
		for range 3 {
			l, _, e := wal.Open(d, name, 64)
			if e != api.OK {
				continue
			}
			for range 5 {
				l.Append(make([]byte, 40))
			}
			l.Sync()
			l.Restart(nil)
			l.Append(nil)
			l.Records()
			l.Segments()
		}
	}
}

func TestP5_2Restart(t *testing.T) {
	d, l := logOf(t, 64)
	for i, s := range []string{"", "s", strings.Repeat("s", 64), strings.Repeat("s", 1000)} {
		if i > 0 {
			for k := range 3 * i {
				appendAll(t, l, strings.Repeat("r", 20*k))
			}
		}
		checkErr(t, "Restart", l.Restart([]byte(s)), api.OK)
		checkCounts(t, "Restart", l, d, 1)
		if l.Segments() != 1 {
			t.Errorf("Restart: %d segments", l.Segments())
		}
		checkSynced(t, "Restart", d, s)
		checkErr(t, "Restart twice", l.Restart([]byte("t"+s)), api.OK)
		checkSynced(t, "Restart twice", d, "t"+s)
		appendAll(t, l, "next")
		checkFound(t, "Append behind a Restart", d, "t"+s, "next")
		checkSynced(t, "Append behind a Restart", d, "t"+s)
		checkErr(t, "Sync", l.Sync(), api.OK)
		checkSynced(t, "Sync behind a Restart", d, "t"+s, "next")
	}
}

// TestP5_2RoomIsFree: there is as much room as if the record had been the first one.
func TestP5_2RoomIsFree(t *testing.T) {
	for _, n := range []int{0, 1, 50, 200, 3000} {
		s := strings.Repeat("s", n)
		fresh, _ := logOf(t, 64, s)
		d, l := logOf(t, 64)
		d.Append("other", []byte("foreign"))
		for range 20 {
			for i := range 9 {
				appendAll(t, l, strings.Repeat("r", 30*i))
			}
			checkErr(t, "Restart", l.Restart([]byte(s)), api.OK)
			if want := fresh.Used() + len("foreign"); d.Used() != want || len(d.List()) != 2 {
				t.Fatalf("Restart of %d bytes: %d bytes in %d files, not %d in 2", n, d.Used(), len(d.List()), want)
			}
		}
	}
}

// TestP5_2RoomServesAgain: a full log that begins anew takes records again.
func TestP5_2RoomServesAgain(t *testing.T) {
	d, l := logOf(t, 64)
	d.Room(1000)
	for range 10 {
		n := 0
		for l.Append(make([]byte, 30)) == api.OK {
			n++
		}
		if n < 10 || d.Used() > 1000 {
			t.Fatalf("%d records, %d bytes", n, d.Used())
		}
		checkErr(t, "Restart", l.Restart([]byte("s")), api.OK)
		checkSynced(t, "Restart", d, "s")
	}
}

func TestP5_2OpenedAnewItBeginsAnew(t *testing.T) {
	d := disk.New(plenty)
	for i := range 15 { // generations of one digit, and of two
		l, _ := open(t, d, 64)
		s := strings.Repeat("s", i)
		checkErr(t, "Restart", l.Restart([]byte(s)), api.OK)
		x := strings.Repeat("x", 60)
		var all []string
		for range 12 {
			all = append(all, x)
		}
		appendAll(t, l, all...)
		checkFound(t, "opened anew", d, append([]string{s}, all...)...)
		checkCounts(t, "opened anew", l, d, 13)
	}
}

func TestP5_3Counts(t *testing.T) {
	d, l := logOf(t, 64)
	for i, step := range []struct {
		n, segments int // a record of so many bytes, and how many files there are then
	}{{1, 1}, {64, 1}, {0, 2}, {64, 2}, {64, 3}, {64, 4}} {
		appendAll(t, l, strings.Repeat("l", step.n))
		checkErr(t, "Sync", l.Sync(), api.OK)
		checkCounts(t, "Append", l, d, i+1)
		if l.Segments() != step.segments {
			t.Errorf("%d segments, not %d", l.Segments(), step.segments)
		}
	}
	again, _ := open(t, d, 64)
	checkCounts(t, "opened anew", again, d, 6)
	if again.Segments() != 4 {
		t.Errorf("%d segments, not 4", again.Segments())
	}
	checkErr(t, "Restart", again.Restart(nil), api.OK)
	checkCounts(t, "Restart", again, d, 1)
}

// TestP5_3OneSegmentAtLeast: once there was a record there is a file, though the record be lost.
func TestP5_3OneSegmentAtLeast(t *testing.T) {
	d, _ := logOf(t, 64, "a")
	for _, keep := range []int{0, 1, 9} {
		c := crashed(d, keep)
		l, found := open(t, c, 64)
		checkRecords(t, "a is lost", found)
		if l.Segments() != 1 {
			t.Errorf("%d segments, not 1", l.Segments())
		}
		checkCounts(t, "a is lost", l, c, 0)
		ahead := files(c)
		c.Room(cost(t, 1))
		checkErr(t, "Append", l.Append([]byte("b")), api.ErrDiskFull)
		if !slices.Equal(files(c), ahead) || l.Segments() != 1 {
			t.Errorf("files %q in %d segments, not %q", files(c), l.Segments(), ahead)
		}
		c.Room(cost(t, 1) + 1)
		appendAll(t, l, "b")
		checkCounts(t, "b is there", l, c, 1)
		checkFound(t, "b is there", c, "b")
	}
}

func TestP5_4Examples(t *testing.T) {
	for _, b := range []string{"b", "bbbb", strings.Repeat("b", 300)} {
		d, l := logOf(t, 64, "a")
		checkErr(t, "Sync", l.Sync(), api.OK)
		ahead := d.Used()
		appendAll(t, l, b)
		half := (d.Used() - ahead) / 2
		checkFound(t, "half of b", crashed(d, half), "a")
		checkFound(t, "all of b", crashed(d, plenty), "a", b)
		checkErr(t, "Restart", l.Restart([]byte("s")), api.OK)
		checkFound(t, "Restart", d, "s")
		checkSynced(t, "Restart", d, "s")
	}
}

func TestP5_5WhatIsToldWasAppended(t *testing.T) {
	all := []string{"\x00\xFF", "", "\n\r\x1A", "h\u00E9", string(bytes.Repeat([]byte{0}, 200)), string(bytes.Repeat([]byte{0xFF}, 130))}
	for i := range 256 {
		all = append(all, string([]byte{byte(i)}))
	}
	d, _ := logOf(t, 64, all...)
	checkFound(t, "byte by byte", d, all...)
}
