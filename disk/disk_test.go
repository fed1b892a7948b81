package disk_test

import (
	"bytes"
	"math"
	"math/rand"
	"slices"
	"strings"
	"testing"

	"quire/api"
	"quire/disk"
)

// plenty: a room that no test fills by chance.
const plenty = 1 << 30

// laid: a disk with files of these names and bytes, by turns, nothing of it synced.
func laid(t *testing.T, files ...string) *disk.Disk {
	t.Helper()
	d := disk.New(plenty)
	for i := 0; i < len(files); i += 2 {
		checkErr(t, "Append "+files[i], d.Append(files[i], []byte(files[i+1])), api.OK)
	}
	return d
}

func checkErr(t *testing.T, what string, got, want api.Errno) {
	t.Helper()
	if got != want {
		t.Errorf("%s: %d, not %d", what, got, want)
	}
}

// checkFiles: that the disk has just these names and bytes, by turns, in order.
func checkFiles(t *testing.T, d *disk.Disk, files ...string) {
	t.Helper()
	var names []string
	used := 0
	for i := 0; i < len(files); i += 2 {
		names = append(names, files[i])
		used += len(files[i+1])
		if b, e := d.Read(files[i]); e != api.OK || string(b) != files[i+1] {
			t.Errorf("Read(%q): %q, %d, not %q", files[i], b, e, files[i+1])
		}
	}
	if got := d.List(); !slices.Equal(got, names) {
		t.Errorf("List: %q, not %q", got, names)
	}
	if d.Used() != used {
		t.Errorf("Used: %d, not %d", d.Used(), used)
	}
}

// checkNone: that Read answers that error and no bytes.
func checkNone(t *testing.T, d *disk.Disk, name string, want api.Errno) {
	t.Helper()
	if b, e := d.Read(name); e != want || b != nil {
		t.Errorf("Read(%q): %v, %d, not %d", name, b, e, want)
	}
}

// crashed: a copy behind a crash.
func crashed(d *disk.Disk, keep ...int) *disk.Disk {
	c := d.Copy()
	c.Crash(keep)
	return c
}

func TestP4_1NewHasNoFiles(t *testing.T) {
	for _, room := range []int{math.MinInt, -1, 0, 1, math.MaxInt} {
		d := disk.New(room)
		checkFiles(t, d)
		if d.Dead() {
			t.Errorf("New(%d) is dead", room)
		}
		checkNone(t, d, "a", api.ErrDiskNone)
	}
	a, b := disk.New(plenty), disk.New(plenty)
	a.Append("a", []byte("x"))
	a.Cut(0)
	checkFiles(t, b)
	if b.Dead() {
		t.Error("two disks touch one another")
	}
}

func TestP4_1Append(t *testing.T) {
	d := laid(t, "a", "xy", "b", "", "a", "z", "a", "", "b", "q")
	checkFiles(t, d, "a", "xyz", "b", "q")
	checkErr(t, "Append nil", d.Append("c", nil), api.OK)
	checkFiles(t, d, "a", "xyz", "b", "q", "c", "")
}

func TestP4_1AppendNames(t *testing.T) {
	long := strings.Repeat("n", api.MaxName)
	for _, name := range []string{"a", "\x00", "\xff", " ", "/", strings.Repeat("\u20AC", 10) + "ab", long} {
		d := disk.New(plenty)
		checkErr(t, "Append", d.Append(name, []byte("x")), api.OK)
		checkFiles(t, d, name, "x")
	}
	for _, name := range []string{"", long + "n", strings.Repeat("\u20AC", 11), strings.Repeat("n", 1000)} {
		d := laid(t, "a", "x")
		checkErr(t, "Append", d.Append(name, nil), api.ErrDiskName)
		checkErr(t, "Append, full too", d.Append(name, make([]byte, api.MaxFile+1)), api.ErrDiskName)
		checkNone(t, d, name, api.ErrDiskNone)
		checkErr(t, "Sync", d.Sync(name), api.ErrDiskNone)
		checkErr(t, "Truncate", d.Truncate(name, 0), api.ErrDiskNone)
		checkErr(t, "Delete", d.Delete(name), api.ErrDiskNone)
		checkErr(t, "Rename", d.Rename(name, "c"), api.ErrDiskNone)
		checkErr(t, "Rename, no name too", d.Rename(name, name), api.ErrDiskNone)
		checkFiles(t, d, "a", "x")
	}
}

func TestP4_1MaxFile(t *testing.T) {
	all := strings.Repeat("x", api.MaxFile)
	d := disk.New(plenty)
	checkErr(t, "one more at once", d.Append("a", make([]byte, api.MaxFile+1)), api.ErrDiskFull)
	checkFiles(t, d)
	checkErr(t, "one less", d.Append("a", []byte(all[1:])), api.OK)
	checkErr(t, "one more in two", d.Append("a", []byte("yz")), api.ErrDiskFull)
	checkErr(t, "MaxFile", d.Append("a", []byte("x")), api.OK)
	checkErr(t, "one more", d.Append("a", []byte("y")), api.ErrDiskFull)
	checkErr(t, "none more", d.Append("a", nil), api.OK)
	checkErr(t, "another file", d.Append("b", []byte(all)), api.OK)
	checkFiles(t, d, "a", all, "b", all)
	d.Truncate("a", api.MaxFile-1)
	checkErr(t, "MaxFile again", d.Append("a", []byte("x")), api.OK)
	checkErr(t, "one more again", d.Append("a", []byte("y")), api.ErrDiskFull)
}

func TestP4_1RoomOfAllFiles(t *testing.T) {
	d := disk.New(5)
	checkErr(t, "ahead of the room", d.Append("a", []byte("xyz")), api.OK)
	checkErr(t, "one above", d.Append("b", []byte("uvw")), api.ErrDiskFull)
	checkFiles(t, d, "a", "xyz")
	checkErr(t, "at the room", d.Append("b", []byte("uv")), api.OK)
	checkErr(t, "one more", d.Append("a", []byte("t")), api.ErrDiskFull)
	checkErr(t, "none more", d.Append("c", nil), api.OK)
	checkFiles(t, d, "a", "xyz", "b", "uv", "c", "")

	d.Truncate("a", 2)
	checkErr(t, "behind Truncate, one more", d.Append("c", []byte("rs")), api.ErrDiskFull)
	checkErr(t, "behind Truncate", d.Append("c", []byte("r")), api.OK)
	d.Rename("c", "b")
	checkErr(t, "behind Rename, one more", d.Append("b", []byte("123")), api.ErrDiskFull)
	checkErr(t, "behind Rename", d.Append("b", []byte("12")), api.OK)
	d.Delete("a")
	checkErr(t, "behind Delete, one more", d.Append("b", []byte("345")), api.ErrDiskFull)
	checkErr(t, "behind Delete", d.Append("b", []byte("34")), api.OK)
	d.Sync("b")
	checkFiles(t, d, "b", "r1234")
	d = disk.New(5)
	d.Append("b", []byte("12345"))
	d.Crash([]int{3})
	checkErr(t, "behind Crash, one more", d.Append("b", []byte("678")), api.ErrDiskFull)
	checkErr(t, "behind Crash", d.Append("b", []byte("67")), api.OK)
}

func TestP4_1RoomBelowNoughtIsNought(t *testing.T) {
	for _, room := range []int{math.MinInt, -1, 0} {
		set := disk.New(9)
		set.Room(room)
		for _, d := range []*disk.Disk{disk.New(room), set} {
			checkErr(t, "none", d.Append("a", nil), api.OK)
			checkErr(t, "one", d.Append("a", []byte("x")), api.ErrDiskFull)
			d.Room(1)
			checkErr(t, "one in room 1", d.Append("a", []byte("x")), api.OK)
		}
	}
}

func TestP4_1RoomBelowUsed(t *testing.T) {
	d := laid(t, "a", "xyz", "b", "uv")
	d.Room(4)
	checkFiles(t, d, "a", "xyz", "b", "uv")
	checkErr(t, "none more", d.Append("a", nil), api.ErrDiskFull)
	checkErr(t, "a new file of none", d.Append("c", nil), api.ErrDiskFull)
	checkErr(t, "Sync", d.Sync("a"), api.OK)
	checkErr(t, "Rename", d.Rename("a", "d"), api.OK)
	checkErr(t, "Truncate", d.Truncate("d", 2), api.OK)
	checkErr(t, "none more, at the room", d.Append("b", nil), api.OK)
	d.Room(math.MaxInt)
	checkErr(t, "more", d.Append("b", []byte("w")), api.OK)
	checkFiles(t, d, "b", "uvw", "d", "xy")
}

func TestP4_1Read(t *testing.T) {
	d := laid(t, "a", "xy", "b", "")
	checkNone(t, d, "c", api.ErrDiskNone)
	checkNone(t, d, "A", api.ErrDiskNone)
	checkNone(t, d, "", api.ErrDiskNone)
	checkFiles(t, d, "a", "xy", "b", "")
}

func TestP4_1Sync(t *testing.T) {
	d := laid(t, "a", "xy", "b", "uv")
	checkErr(t, "Sync c", d.Sync("c"), api.ErrDiskNone)
	checkErr(t, "Sync a", d.Sync("a"), api.OK)
	checkFiles(t, d, "a", "xy", "b", "uv")
	checkFiles(t, crashed(d), "a", "xy", "b", "")
	d.Append("a", []byte("z"))
	checkFiles(t, crashed(d), "a", "xy", "b", "")
	checkErr(t, "Sync a", d.Sync("a"), api.OK)
	checkErr(t, "Sync a again", d.Sync("a"), api.OK)
	checkFiles(t, crashed(d), "a", "xyz", "b", "")
}

func TestP4_1Rename(t *testing.T) {
	d := laid(t, "a", "xy", "b", "uvw")
	long := strings.Repeat("n", api.MaxName)
	checkErr(t, "no from", d.Rename("q", "r"), api.ErrDiskNone)
	checkErr(t, "no from, onto a file", d.Rename("q", "a"), api.ErrDiskNone)
	checkErr(t, "no from to itself", d.Rename("q", "q"), api.ErrDiskNone)
	checkErr(t, "no from, no name", d.Rename("q", ""), api.ErrDiskNone)
	checkErr(t, "no name", d.Rename("a", ""), api.ErrDiskName)
	checkErr(t, "too long a name", d.Rename("a", long+"n"), api.ErrDiskName)
	checkFiles(t, d, "a", "xy", "b", "uvw")
	checkErr(t, "to itself", d.Rename("a", "a"), api.OK)
	checkFiles(t, d, "a", "xy", "b", "uvw")
	checkErr(t, "to a new name", d.Rename("a", "c"), api.OK)
	checkFiles(t, d, "b", "uvw", "c", "xy")
	checkNone(t, d, "a", api.ErrDiskNone)
	checkErr(t, "onto another", d.Rename("c", "b"), api.OK)
	checkFiles(t, d, "b", "xy")
	checkErr(t, "to a long name", d.Rename("b", long), api.OK)
	checkFiles(t, d, long, "xy")
}

// What is synced goes with the file, not with the name.
func TestP4_1RenameKeepsWhatIsSynced(t *testing.T) {
	d := laid(t, "a", "xy")
	d.Sync("a")
	d.Append("a", []byte("z"))
	d.Append("b", []byte("uvwt"))
	d.Rename("a", "a")
	checkFiles(t, crashed(d), "a", "xy", "b", "")
	d.Rename("a", "b")
	checkFiles(t, d, "b", "xyz")
	checkFiles(t, crashed(d), "b", "xy")
	checkFiles(t, crashed(d, 1), "b", "xyz")

	d = laid(t, "a", "xyz", "b", "uvwt")
	d.Sync("b")
	d.Rename("a", "b")
	checkFiles(t, crashed(d), "b", "")
}

func TestP4_1Truncate(t *testing.T) {
	for _, c := range []struct {
		n    int
		left string
	}{{math.MinInt, ""}, {-1, ""}, {0, ""}, {1, "v"}, {4, "vwxy"}, {5, "vwxyz"}, {6, "vwxyz"}, {math.MaxInt, "vwxyz"}} {
		d := laid(t, "a", "vwx", "b", "q")
		d.Sync("a")
		d.Append("a", []byte("yz"))
		checkErr(t, "Truncate c", d.Truncate("c", c.n), api.ErrDiskNone)
		checkErr(t, "Truncate a", d.Truncate("a", c.n), api.OK)
		checkFiles(t, d, "a", c.left, "b", "q")
		checkFiles(t, crashed(d), "a", c.left[:min(3, len(c.left))], "b", "")
		d.Append("a", []byte("..."))
		checkFiles(t, d, "a", c.left+"...", "b", "q")
		checkFiles(t, crashed(d), "a", c.left[:min(3, len(c.left))], "b", "")
	}
}

func TestP4_1Delete(t *testing.T) {
	d := laid(t, "a", "xy", "b", "uvw")
	d.Sync("a")
	checkErr(t, "Delete c", d.Delete("c"), api.ErrDiskNone)
	checkErr(t, "Delete a", d.Delete("a"), api.OK)
	checkErr(t, "Delete a again", d.Delete("a"), api.ErrDiskNone)
	checkNone(t, d, "a", api.ErrDiskNone)
	checkFiles(t, d, "b", "uvw")
	d.Append("a", []byte("new"))
	checkFiles(t, d, "a", "new", "b", "uvw")
	checkFiles(t, crashed(d), "a", "", "b", "")
}

// Renames, truncations and deletions need no Sync; nor does it that there is a file.
func TestP4_1AtOnceForGood(t *testing.T) {
	d := laid(t, "a", "xyz", "b", "uvw", "c", "rst", "d", "", "e", "opq")
	for _, name := range []string{"a", "b", "c"} {
		d.Sync(name)
	}
	d.Rename("a", "f")
	d.Truncate("b", 2)
	d.Delete("c")
	checkFiles(t, crashed(d), "b", "uv", "d", "", "e", "", "f", "xyz")
	checkFiles(t, crashed(d, 9, 9, 9, 9, 9), "b", "uv", "d", "", "e", "opq", "f", "xyz")
}

func TestP4_1ListByBytes(t *testing.T) {
	names := []string{"b", "a", "ab", "B", "a\x00", "\xff", "\x00", "aa", "\u20AC", "10", "9", "\U0001F600"}
	d := disk.New(plenty)
	for _, name := range names {
		d.Append(name, nil)
	}
	slices.SortFunc(names, func(a, b string) int { return bytes.Compare([]byte(a), []byte(b)) })
	for range 20 {
		if got := d.List(); !slices.Equal(got, names) {
			t.Fatalf("List: %q, not %q", got, names)
		}
	}
}

// Ahead of all other errors comes that it is dead; what is there shows in Used alone.
func TestP4_1Dead(t *testing.T) {
	d := laid(t, "a", "xyz", "b", "uv")
	d.Cut(0)
	for _, name := range []string{"a", "b", "c", "", strings.Repeat("n", api.MaxName+1)} {
		checkErr(t, "Append", d.Append(name, nil), api.ErrDiskDead)
		checkErr(t, "Append, full", d.Append(name, make([]byte, api.MaxFile+1)), api.ErrDiskDead)
		checkNone(t, d, name, api.ErrDiskDead)
		checkErr(t, "Sync", d.Sync(name), api.ErrDiskDead)
		checkErr(t, "Rename", d.Rename(name, "q"), api.ErrDiskDead)
		checkErr(t, "Rename to no name", d.Rename(name, ""), api.ErrDiskDead)
		checkErr(t, "Rename to itself", d.Rename(name, name), api.ErrDiskDead)
		checkErr(t, "Truncate", d.Truncate(name, 0), api.ErrDiskDead)
		checkErr(t, "Delete", d.Delete(name), api.ErrDiskDead)
	}
	if l := d.List(); len(l) != 0 || d.Used() != 5 || !d.Dead() {
		t.Errorf("dead: List %q, Used %d, Dead %v", l, d.Used(), d.Dead())
	}
	d.Crash([]int{9, 9})
	checkFiles(t, d, "a", "xyz", "b", "uv")
}

func TestP4_1NothingIsShared(t *testing.T) {
	d := disk.New(plenty)
	b := append(make([]byte, 0, 8), "xy"...)
	d.Append("a", b)
	copy(b, "??")
	d.Append("a", []byte("z"))
	if string(b[:3]) != "??\x00" {
		t.Errorf("what is handed in has changed: %q", b[:3])
	}
	checkFiles(t, d, "a", "xyz")
	got, _ := d.Read("a")
	again, _ := d.Read("a")
	copy(append(got, "more"...), "????")
	copy(got, "!!!")
	if string(again) != "xyz" {
		t.Errorf("two answers share memory: %q", again)
	}
	d.Append("a", []byte("w"))
	checkFiles(t, d, "a", "xyzw")
	names := d.List()
	names[0] = "q"
	checkFiles(t, d, "a", "xyzw")

	keep := []int{-3, 7}
	d.Crash(keep)
	if !slices.Equal(keep, []int{-3, 7}) {
		t.Errorf("Crash changed keep: %v", keep)
	}
}

// counted: calls that are done, each of which a Cut counts.
func counted() []func(*disk.Disk) api.Errno {
	return []func(*disk.Disk) api.Errno{
		func(d *disk.Disk) api.Errno { return d.Append("a", []byte("z")) },
		func(d *disk.Disk) api.Errno { return d.Append("a", nil) },
		func(d *disk.Disk) api.Errno { return d.Sync("a") },
		func(d *disk.Disk) api.Errno { return d.Sync("a") },
		func(d *disk.Disk) api.Errno { return d.Rename("a", "b") },
		func(d *disk.Disk) api.Errno { return d.Rename("b", "b") },
		func(d *disk.Disk) api.Errno { return d.Truncate("b", 1) },
		func(d *disk.Disk) api.Errno { return d.Truncate("b", 99) },
		func(d *disk.Disk) api.Errno { return d.Delete("b") },
		func(d *disk.Disk) api.Errno { return d.Append("a", nil) },
	}
}

// others: calls that a Cut doesn't count: refused ones, and those that lay nothing down.
func others(t *testing.T, d *disk.Disk) {
	t.Helper()
	checkErr(t, "Append to no name", d.Append("", nil), api.ErrDiskName)
	checkErr(t, "Append too much", d.Append("a", make([]byte, api.MaxFile+1)), api.ErrDiskFull)
	checkErr(t, "Sync none", d.Sync("q"), api.ErrDiskNone)
	checkErr(t, "Rename none", d.Rename("q", "r"), api.ErrDiskNone)
	for _, name := range d.List() {
		checkErr(t, "Rename to no name", d.Rename(name, ""), api.ErrDiskName)
		d.Read(name)
	}
	checkErr(t, "Truncate none", d.Truncate("q", 0), api.ErrDiskNone)
	checkErr(t, "Delete none", d.Delete("q"), api.ErrDiskNone)
	checkNone(t, d, "q", api.ErrDiskNone)
	d.Used()
	d.Room(plenty)
	d.Dead()
	d.Copy().Append("a", nil)
}

func TestP4_2CutBehindCallsThatAreDone(t *testing.T) {
	calls := counted()
	for n := range len(calls) + 1 {
		d := laid(t, "a", "xy")
		d.Cut(n)
		for i, call := range calls {
			if d.Dead() != (i >= n) {
				t.Fatalf("Cut(%d) behind %d calls: Dead is %v", n, i, d.Dead())
			}
			want := api.OK
			if i >= n {
				want = api.ErrDiskDead
			} else {
				others(t, d)
			}
			checkErr(t, "a call", call(d), want)
		}
		if d.Dead() != (n <= len(calls)) {
			t.Errorf("Cut(%d) behind all calls: Dead is %v", n, d.Dead())
		}
	}
}

func TestP4_2CutNever(t *testing.T) {
	for _, n := range []int{-1, -2, math.MinInt, math.MaxInt} {
		d := laid(t, "a", "xy")
		d.Cut(2)
		d.Cut(n)
		for _, call := range counted() {
			checkErr(t, "a call", call(d), api.OK)
		}
		if d.Dead() {
			t.Errorf("Cut(%d): it is dead", n)
		}
	}
}

func TestP4_2CutOfADeadOne(t *testing.T) {
	for _, n := range []int{math.MinInt, -1, 0, 1, 2, math.MaxInt} {
		d := laid(t, "a", "xy")
		d.Cut(1)
		d.Sync("a")
		d.Cut(n)
		if !d.Dead() || d.Append("a", nil) != api.ErrDiskDead {
			t.Errorf("Cut(%d) of a dead one: it isn't dead", n)
		}
		d.Room(n)
		if !d.Dead() {
			t.Errorf("Room(%d) of a dead one: it isn't dead", n)
		}
		d.Room(plenty)
		d.Crash(nil)
		for range 5 {
			checkErr(t, "behind Crash", d.Append("a", []byte("z")), api.OK)
		}
		checkFiles(t, d, "a", "xyzzzzz")
	}
}

// The last Cut holds.
func TestP4_2CutAnew(t *testing.T) {
	d := laid(t, "a", "xy")
	d.Cut(1)
	d.Cut(2)
	checkErr(t, "first", d.Sync("a"), api.OK)
	checkErr(t, "second", d.Sync("a"), api.OK)
	checkErr(t, "third", d.Sync("a"), api.ErrDiskDead)
	d.Crash(nil)
	d.Cut(5)
	d.Cut(0)
	checkErr(t, "Cut(0)", d.Sync("a"), api.ErrDiskDead)
}

func TestP4_2CrashExample(t *testing.T) {
	d := disk.New(plenty)
	d.Append("a", []byte("xy"))
	d.Sync("a")
	d.Append("a", []byte("z"))
	d.Crash(nil)
	checkFiles(t, d, "a", "xy")
}

func TestP4_2CrashKeeps(t *testing.T) {
	for _, c := range []struct {
		keep    []int
		a, b, c string
	}{
		{nil, "12", "", ""},
		{[]int{}, "12", "", ""},
		{[]int{0, 0, 0}, "12", "", ""},
		{[]int{1}, "123", "", ""},
		{[]int{2, 1}, "1234", "5", ""},
		{[]int{3, 3}, "12345", "567", ""},
		{[]int{4, 4, 4}, "12345", "567", ""},
		{[]int{-1, 2, 1}, "12", "56", ""},
		{[]int{1, -1, 9, 5, 5}, "123", "", ""},
		{[]int{math.MinInt, math.MaxInt}, "12", "567", ""},
		{[]int{math.MaxInt, math.MinInt}, "12345", "", ""},
	} {
		d := laid(t, "b", "567", "c", "", "a", "12")
		d.Sync("a")
		d.Append("a", []byte("345"))
		d.Crash(c.keep)
		checkFiles(t, d, "a", c.a, "b", c.b, "c", c.c)
		d.Append("a", []byte("."))
		d.Append("b", []byte("."))
		checkFiles(t, d, "a", c.a+".", "b", c.b+".", "c", c.c)
		d.Crash(nil) // what stayed is synced
		checkFiles(t, d, "a", c.a, "b", c.b, "c", c.c)
	}
	d := disk.New(3)
	d.Crash([]int{1, 2})
	checkFiles(t, d)
}

func TestP4_2CrashKeepsOfADeadOne(t *testing.T) {
	d := laid(t, "b", "56", "a", "12")
	d.Cut(1)
	d.Append("a", []byte("3"))
	d.Crash([]int{2, 1})
	if d.Dead() {
		t.Error("dead behind Crash")
	}
	checkFiles(t, d, "a", "12", "b", "5")
}

func TestP4_2CrashTakesACutBack(t *testing.T) {
	d := laid(t, "a", "12")
	d.Cut(2)
	d.Sync("a")
	d.Crash(nil)
	for range 5 {
		checkErr(t, "Sync", d.Sync("a"), api.OK)
	}
	if d.Dead() {
		t.Error("a Cut goes on behind Crash")
	}
}

func TestP4_2CrashKeepsTheRoom(t *testing.T) {
	d := disk.New(3)
	d.Append("a", []byte("123"))
	d.Crash([]int{3})
	checkErr(t, "Append", d.Append("a", []byte("4")), api.ErrDiskFull)
	checkFiles(t, d, "a", "123")
}

func TestP4_2CopyIsTheSame(t *testing.T) {
	d := disk.New(9)
	d.Append("a", []byte("12"))
	d.Sync("a")
	d.Append("a", []byte("345"))
	d.Append("b", []byte("67"))
	d.Cut(2)
	c := d.Copy()
	checkFiles(t, c, "a", "12345", "b", "67")
	checkErr(t, "room", c.Append("b", []byte("890")), api.ErrDiskFull)
	checkErr(t, "first", c.Append("b", []byte("89")), api.OK)
	checkErr(t, "second", c.Append("b", nil), api.OK)
	if !c.Dead() || !c.Copy().Dead() || d.Dead() {
		t.Error("a Cut of a copy")
	}
	checkFiles(t, crashed(c, 1, 3), "a", "123", "b", "678")
	checkFiles(t, crashed(d), "a", "12", "b", "")
}

func TestP4_2CopyGoesItsOwnWay(t *testing.T) {
	d := laid(t, "a", "123", "b", "45", "c", "6")
	c := d.Copy()
	d.Append("a", []byte("d"))
	c.Append("a", []byte("c"))
	d.Truncate("b", 1)
	d.Append("b", []byte("d"))
	c.Delete("c")
	c.Rename("b", "e")
	c.Sync("a")
	c.Room(0)
	checkFiles(t, d, "a", "123d", "b", "4d", "c", "6")
	checkFiles(t, c, "a", "123c", "e", "45")
	checkErr(t, "room", d.Append("a", []byte("7")), api.OK)
	c.Cut(0)
	if d.Dead() {
		t.Error("a copy's Cut")
	}
	c.Crash(nil)
	d.Append("z", []byte("z"))
	checkFiles(t, d, "a", "123d7", "b", "4d", "c", "6", "z", "z")
	checkFiles(t, c, "a", "123c", "e", "")
	d.Crash(nil)
	checkFiles(t, d, "a", "", "b", "", "c", "", "z", "")
	checkFiles(t, c, "a", "123c", "e", "")
}

// told: a file as the calls that were done tell it: what was appended to it (behind a truncation: what that left is the first of it), and how much of it no crash may take.
type told struct {
	appended string
	safe     int
}

// walk lays down, loses and asks by chance, next(n) being below n, and holds the disk against what it told it.
func walk(t *testing.T, steps int, next func(int) int) {
	t.Helper()
	names := []string{"a", "b", "ab", "\xff", strings.Repeat("n", api.MaxName)}
	d := disk.New(40)
	files := map[string]told{}
	for range steps {
		name := names[next(len(names))]
		switch next(7) {
		case 0, 1:
			b := []byte("0123456789abcdef")[next(8):][:next(9)]
			if d.Append(name, b) == api.OK {
				f := files[name]
				f.appended += string(b)
				files[name] = f
			}
		case 2:
			if d.Sync(name) == api.OK {
				files[name] = told{files[name].appended, len(files[name].appended)}
			}
		case 3:
			to := names[next(len(names))]
			if d.Rename(name, to) == api.OK && name != to {
				files[to] = files[name]
				delete(files, name)
			}
		case 4:
			n := next(12)
			if d.Truncate(name, n) == api.OK {
				f := files[name]
				n = min(n, len(f.appended))
				files[name] = told{f.appended[:n], min(n, f.safe)}
			}
		case 5:
			if next(4) == 0 && d.Delete(name) == api.OK {
				delete(files, name)
			}
		case 6:
			lose(t, d, files, next)
		}
		checkTold(t, d, files)
	}
}

// lose crashes the disk, or cuts its power, and tells files what is left.
func lose(t *testing.T, d *disk.Disk, files map[string]told, next func(int) int) {
	t.Helper()
	if next(2) == 0 {
		d.Cut(next(4))
		return
	}
	keep := []int{next(5), next(20), next(5) - 2, next(5)}[:next(5)]
	d.Crash(keep)
	for i, name := range d.List() {
		f := files[name]
		want := f.safe
		if i < len(keep) {
			want = min(f.safe+max(keep[i], 0), len(f.appended))
		}
		if b, _ := d.Read(name); len(b) < f.safe || !strings.HasPrefix(f.appended, string(b)) || len(b) != want {
			t.Fatalf("behind Crash(%v), file %d: %q, not %d bytes of %q, %d of them synced", keep, i, b, want, f.appended, f.safe)
		}
		files[name] = told{f.appended[:want], want}
	}
}

// checkTold: that the disk's files are those that were told.
func checkTold(t *testing.T, d *disk.Disk, files map[string]told) {
	t.Helper()
	used := 0
	for _, f := range files {
		used += len(f.appended)
	}
	if d.Used() != used {
		t.Fatalf("Used: %d, not %d", d.Used(), used)
	}
	if d.Dead() {
		return
	}
	if got := d.List(); len(got) != len(files) || !slices.IsSorted(got) {
		t.Fatalf("List: %q, not %d in order", got, len(files))
	}
	for name, f := range files {
		if b, e := d.Read(name); e != api.OK || string(b) != f.appended {
			t.Fatalf("%q: %q, %d, not %q", name, b, e, f.appended)
		}
	}
}

func TestP4_3WhatWasSyncedStays(t *testing.T) {
	for seed := range int64(50) {
		rnd := rand.New(rand.NewSource(seed))
		walk(t, 400, rnd.Intn)
	}
}

// Every crash, keeping whatever it may, behind every call of one life.
func TestP4_3BehindEachCall(t *testing.T) {
	calls := counted()
	synced := []string{"", "", "xyz", "xyz", "xyz", "xyz", "x", "x", "", ""}
	appended := []string{"xyz", "xyz", "xyz", "xyz", "xyz", "xyz", "x", "x", "", ""}
	for n := 1; n <= len(calls); n++ {
		for keep := -1; keep <= 4; keep++ {
			d := laid(t, "a", "xy")
			d.Cut(n)
			for _, call := range calls {
				call(d)
			}
			d.Crash([]int{keep})
			var got []byte
			if l := d.List(); len(l) == 1 {
				got, _ = d.Read(l[0])
			}
			if !strings.HasPrefix(string(got), synced[n-1]) || !strings.HasPrefix(appended[n-1], string(got)) {
				t.Errorf("Cut(%d), Crash(%d): %q, not from %q to %q", n, keep, got, synced[n-1], appended[n-1])
			}
		}
	}
}

func FuzzP4_3Walk(f *testing.F) {
	f.Add([]byte("some calls by chance"))
	f.Add([]byte{0, 0, 1, 7, 0, 2, 0, 6, 1, 4})
	f.Fuzz(func(t *testing.T, b []byte) {
		at := 0
		walk(t, len(b)/2, func(n int) int {
			if at == len(b) {
				return 0
			}
			at++
			return int(b[at-1]) % n
		})
	})
}
