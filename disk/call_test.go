package disk_test

import (
	"math"
	"slices"
	"strconv"
	"strings"
	"testing"

	"skylark/api"
	"skylark/disk"
)

// newDisk is a disk of a room that may be.
func newDisk(t *testing.T, room int) *disk.Disk {
	t.Helper()
	d, e := disk.New(room)
	if d == nil || e != api.OK {
		t.Fatal(room, d, e)
	}
	return d
}

// must fails unless a call was taken.
func must(t *testing.T, e api.Errno) {
	t.Helper()
	if e != api.OK {
		t.Fatal(e)
	}
}

// told fails unless a call answered that.
func told(t *testing.T, got, want api.Errno) {
	t.Helper()
	if got != want {
		t.Errorf("%v, not %v", got, want)
	}
}

// holds fails unless the disk has just these files: names and bytes, in turn, by names.
func holds(t *testing.T, d *disk.Disk, want ...string) {
	t.Helper()
	if got := contents(d); !slices.Equal(got, want) {
		t.Errorf("%q, not %q", got, want)
	}
	used := 0
	for i := 1; i < len(want); i += 2 {
		used += len(want[i])
	}
	if d.Used() != used {
		t.Errorf("used %d, not %d", d.Used(), used)
	}
}

func contents(d *disk.Disk) []string {
	var l []string
	for _, name := range d.Names() {
		s, e := d.Read(name)
		if e != api.OK {
			s = "error " + strconv.Itoa(int(e))
		}
		l = append(l, name, s)
	}
	return l
}

// badNames are names that may not be: too short, too long, with a byte that may not be.
func badNames() []string {
	bad := []string{"", strings.Repeat("a", api.MaxName+1), strings.Repeat("z", 1<<16), "A", "a/b", "a b", "-", "é", "..\x00"}
	for c := range 256 {
		if !strings.Contains("abcdefghijklmnopqrstuvwxyz0123456789.", string([]byte{byte(c)})) {
			bad = append(bad, string([]byte{byte(c)}), string([]byte{'a', byte(c)}), string([]byte{byte(c), 'z'}))
		}
	}
	return bad
}

func goodNames() []string {
	good := []string{".", "..", "0", "a.b", strings.Repeat("a", api.MaxName), strings.Repeat("9", api.MaxName-1), strings.Repeat(".", api.MaxName)}
	for _, c := range "abcdefghijklmnopqrstuvwxyz0123456789." {
		good = append(good, "n"+string(c))
	}
	return good
}

// Promise 2.1: the rooms that may be, and those outside.
func TestNew(t *testing.T) {
	for _, room := range []int{0, 1, api.MaxBytes - 1, api.MaxBytes} {
		d := newDisk(t, room)
		holds(t, d)
		told(t, d.Append("a", strings.Repeat("x", room+1)), api.ErrSpace)
		told(t, d.Append("a", strings.Repeat("x", room)), api.OK)
		told(t, d.Append("b", "x"), api.ErrSpace)
		holds(t, d, "a", strings.Repeat("x", room))
	}
	for _, room := range []int{-1, api.MaxBytes + 1, math.MinInt, math.MaxInt} {
		if d, e := disk.New(room); d != nil || e != api.ErrRange {
			t.Error(room, d, e)
		}
	}
}

// Promise 2.1: a disk of its own for each New.
func TestDisksApart(t *testing.T) {
	one, other := newDisk(t, 5), newDisk(t, 5)
	must(t, one.Append("a", "12345"))
	must(t, one.Fuse(0))
	told(t, one.Sync(), api.ErrDown)
	holds(t, other)
	told(t, other.Append("a", "x"), api.OK)
}

// Promise 2.1: names that may not be are refused by each call that takes names, ahead of all else, and whether or not the disk is down.
func TestBadNames(t *testing.T) {
	up, down := newDisk(t, 3), newDisk(t, 3)
	for _, d := range []*disk.Disk{up, down} {
		must(t, d.Append("a", "xyz"))
	}
	must(t, down.Fuse(0))
	told(t, down.Sync(), api.ErrDown)
	for _, d := range []*disk.Disk{up, down} {
		for _, name := range badNames() {
			for i, e := range []api.Errno{
				d.Append(name, ""), d.Append(name, "x"), d.Cut(name, 0), d.Cut(name, -1), d.Remove(name),
				d.Rename(name, "a"), d.Rename(name, name), d.Rename("a", name), d.Rename("none", name),
			} {
				if e != api.ErrName {
					t.Errorf("%q, call %d: %v", name, i, e)
				}
			}
			if s, e := d.Read(name); s != "" || e != api.ErrName {
				t.Errorf("%q: %q %v", name, s, e)
			}
		}
		holds(t, d, "a", "xyz")
	}
}

// Promise 2.1: names that may be, of one byte and of api.MaxName.
func TestGoodNames(t *testing.T) {
	for _, name := range goodNames() {
		d := newDisk(t, 9)
		for i, e := range []api.Errno{d.Append(name, "x"), d.Cut(name, 1), d.Rename(name, name), d.Rename(name, "q"), d.Rename("q", name)} {
			if e != api.OK {
				t.Errorf("%q, call %d: %v", name, i, e)
			}
		}
		holds(t, d, name, "x")
		told(t, d.Remove(name), api.OK)
		holds(t, d)
		if s, e := d.Read(name); s != "" || e != api.ErrNone {
			t.Errorf("%q: %q %v", name, s, e)
		}
	}
}

// Promise 2.1: data stands at the file's end, and a file that was not there is made, be it empty.
func TestAppend(t *testing.T) {
	d := newDisk(t, 20)
	for _, x := range [][2]string{{"b", "one"}, {"a", ""}, {"b", ""}, {"b", "\x00\xff"}, {"a", "q"}, {"b", "z"}} {
		told(t, d.Append(x[0], x[1]), api.OK)
	}
	holds(t, d, "a", "q", "b", "one\x00\xffz")
}

// Promise 2.1: just as many bytes as there is room for, one more, and room that comes back.
func TestAppendRoom(t *testing.T) {
	d := newDisk(t, 9)
	told(t, d.Append("a", strings.Repeat("x", 1<<20)), api.ErrSpace)
	told(t, d.Append("a", "0123456789"), api.ErrSpace)
	holds(t, d)
	must(t, d.Append("a", "01234"))
	told(t, d.Append("b", "56789"), api.ErrSpace)
	told(t, d.Append("a", "56789"), api.ErrSpace)
	told(t, d.Append("b", "5678"), api.OK)
	told(t, d.Append("a", "x"), api.ErrSpace)
	told(t, d.Append("c", "x"), api.ErrSpace)
	told(t, d.Append("c", ""), api.OK)
	holds(t, d, "a", "01234", "b", "5678", "c", "")
	must(t, d.Cut("a", 3))
	told(t, d.Append("c", "xyz"), api.ErrSpace)
	told(t, d.Append("c", "xy"), api.OK)
	must(t, d.Remove("b"))
	told(t, d.Append("c", "56789"), api.ErrSpace)
	told(t, d.Append("a", "5678"), api.OK)
	must(t, d.Rename("c", "a"))
	told(t, d.Append("a", "01234567"), api.ErrSpace)
	told(t, d.Append("a", "0123456"), api.OK)
	must(t, d.Crash([]int{4}))
	told(t, d.Append("b", "012345"), api.ErrSpace)
	told(t, d.Append("b", "01234"), api.OK)
}

// filled is a disk with api.MaxFiles files, of a byte each.
func filled(t *testing.T, room int) *disk.Disk {
	t.Helper()
	d := newDisk(t, room)
	for i := range api.MaxFiles {
		must(t, d.Append("f"+strconv.Itoa(i), "x"))
	}
	return d
}

// Promise 2.1: api.MaxFiles files may be, one more may not, and those that are there may grow.
func TestAppendMostFiles(t *testing.T) {
	d := filled(t, 1000)
	told(t, d.Append("new", "x"), api.ErrSpace)
	told(t, d.Append("new", ""), api.ErrSpace)
	if len(d.Names()) != api.MaxFiles || d.Used() != api.MaxFiles {
		t.Error(d.Names(), d.Used())
	}
	told(t, d.Append("f63", "y"), api.OK)
	told(t, d.Rename("f0", "new"), api.OK)
	told(t, d.Append("f0", "y"), api.ErrSpace)
	told(t, d.Rename("new", "f1"), api.OK)
	told(t, d.Append("f0", "y"), api.OK)
	told(t, d.Append("new", "y"), api.ErrSpace)
	must(t, d.Remove("f5"))
	told(t, d.Append("new", "y"), api.OK)
	told(t, d.Append("f5", "y"), api.ErrSpace)
}

// Promise 2.1: a disk that is full tells so ahead of being down, and is not taken down by it.
func TestSpaceAheadOfDown(t *testing.T) {
	d := filled(t, api.MaxFiles+2)
	must(t, d.Fuse(0))
	told(t, d.Append("new", ""), api.ErrSpace)
	told(t, d.Append("f0", "123"), api.ErrSpace)
	must(t, d.Fuse(1))
	told(t, d.Append("f0", "12"), api.OK)
	told(t, d.Append("f0", ""), api.ErrDown)
	told(t, d.Append("f0", "x"), api.ErrSpace)
	told(t, d.Append("new", ""), api.ErrSpace)
}

// Promise 2.2: a cut to 0, to the whole length, to one more, and outside on either side.
func TestCut(t *testing.T) {
	d := newDisk(t, 9)
	must(t, d.Append("a", "abcde"))
	for _, length := range []int{-1, 6, math.MinInt, math.MaxInt} {
		told(t, d.Cut("a", length), api.ErrRange)
		told(t, d.Cut("b", length), api.ErrNone)
	}
	told(t, d.Cut("b", 0), api.ErrNone)
	holds(t, d, "a", "abcde")
	told(t, d.Cut("a", 5), api.OK)
	holds(t, d, "a", "abcde")
	told(t, d.Cut("a", 2), api.OK)
	holds(t, d, "a", "ab")
	told(t, d.Cut("a", 3), api.ErrRange)
	must(t, d.Append("a", "XY"))
	holds(t, d, "a", "abXY")
	told(t, d.Cut("a", 0), api.OK)
	holds(t, d, "a", "")
	told(t, d.Cut("a", 0), api.OK)
	told(t, d.Cut("a", 1), api.ErrRange)
	holds(t, d, "a", "")
}

// Promise 2.2: what a cut takes away is gone at once, and no more is safe than was.
func TestCutAndSafe(t *testing.T) {
	for _, x := range []struct {
		cut  int
		more string
		draw int
		want string
	}{
		{4, "", 0, "abc"},
		{4, "", 1, "abcd"},
		{4, "Z", 2, "abcdZ"},
		{4, "Z", 1, "abcd"},
		{3, "", 7, "abc"},
		{3, "Z", 0, "abc"},
		{2, "", 0, "ab"},
		{2, "", 5, "ab"},
		{2, "ZZZ", 0, "ab"},
		{2, "ZZZ", 2, "abZZ"},
		{0, "Z", 0, ""},
		{0, "Z", 1, "Z"},
	} {
		d := newDisk(t, 9)
		must(t, d.Append("a", "abc"))
		must(t, d.Sync())
		must(t, d.Append("a", "de"))
		must(t, d.Cut("a", x.cut))
		must(t, d.Append("a", x.more))
		must(t, d.Crash([]int{x.draw}))
		holds(t, d, "a", x.want)
	}
}

// Promise 2.2: a sync makes all bytes of all files safe.
func TestSync(t *testing.T) {
	d := newDisk(t, 20)
	told(t, d.Sync(), api.OK)
	must(t, d.Append("a", "abc"))
	must(t, d.Append("b", ""))
	must(t, d.Append("c", "xyz"))
	told(t, d.Sync(), api.OK)
	must(t, d.Append("a", "12"))
	must(t, d.Append("d", "34"))
	must(t, d.Crash(nil))
	holds(t, d, "a", "abc", "b", "", "c", "xyz", "d", "")
}

// Promise 2.2: a file has another name, in the place of the one that had it.
func TestRename(t *testing.T) {
	d := newDisk(t, 20)
	must(t, d.Append("a", "abc"))
	must(t, d.Sync())
	must(t, d.Append("b", "xy"))
	told(t, d.Rename("c", "a"), api.ErrNone)
	told(t, d.Rename("c", "c"), api.ErrNone)
	told(t, d.Rename("c", "d"), api.ErrNone)
	holds(t, d, "a", "abc", "b", "xy")
	told(t, d.Rename("a", "c"), api.OK)
	holds(t, d, "b", "xy", "c", "abc")
	told(t, d.Rename("b", "c"), api.OK)
	holds(t, d, "c", "xy")
	must(t, d.Crash([]int{1}))
	holds(t, d, "c", "x")
}

// Promise 2.2: what is safe of a file, and what is not, goes with its name.
func TestRenameKeepsSafe(t *testing.T) {
	for draw, want := range []string{"abc", "abcd", "abcde"} {
		d := newDisk(t, 20)
		must(t, d.Append("a", "abc"))
		must(t, d.Append("b", "0123456789"))
		must(t, d.Sync())
		must(t, d.Append("a", "de"))
		must(t, d.Rename("a", "b"))
		must(t, d.Crash([]int{draw}))
		holds(t, d, "b", want)
		must(t, d.Append("a", "q"))
		must(t, d.Crash(nil))
		holds(t, d, "a", "", "b", want)
	}
}

// Promise 2.2: a file that is given its own name is as it was.
func TestRenameToItself(t *testing.T) {
	for draw, want := range []string{"abc", "abcd", "abcde"} {
		d := newDisk(t, 9)
		must(t, d.Append("a", "abc"))
		must(t, d.Sync())
		must(t, d.Append("a", "de"))
		told(t, d.Rename("a", "a"), api.OK)
		holds(t, d, "a", "abcde")
		must(t, d.Crash([]int{draw}))
		holds(t, d, "a", want)
	}
}

// Promise 2.2: a file that is taken away does not come back, and what is made in its place is new.
func TestRemove(t *testing.T) {
	d := newDisk(t, 9)
	told(t, d.Remove("a"), api.ErrNone)
	must(t, d.Append("a", "abc"))
	must(t, d.Append("b", "xy"))
	must(t, d.Sync())
	told(t, d.Remove("c"), api.ErrNone)
	told(t, d.Remove("a"), api.OK)
	told(t, d.Remove("a"), api.ErrNone)
	holds(t, d, "b", "xy")
	must(t, d.Append("a", "abcd"))
	holds(t, d, "a", "abcd", "b", "xy")
	must(t, d.Crash(nil))
	holds(t, d, "a", "", "b", "xy")
	told(t, d.Remove("a"), api.OK)
	must(t, d.Crash(nil))
	holds(t, d, "b", "xy")
}

// Promise 2.3: what is read, and what there is not.
func TestRead(t *testing.T) {
	d := newDisk(t, 9)
	must(t, d.Append("a", "x\x00\xff"))
	must(t, d.Append("b", ""))
	for _, x := range []struct {
		name, want string
		e          api.Errno
	}{{"a", "x\x00\xff", api.OK}, {"b", "", api.OK}, {"c", "", api.ErrNone}, {"", "", api.ErrName}, {"C", "", api.ErrName}} {
		if s, e := d.Read(x.name); s != x.want || e != x.e {
			t.Errorf("%q: %q %v", x.name, s, e)
		}
	}
}

// R4: what was read stays what it was, whatever becomes of the file.
func TestReadIsApart(t *testing.T) {
	d := newDisk(t, 9)
	must(t, d.Append("a", "abcd"))
	s, _ := d.Read("a")
	must(t, d.Cut("a", 1))
	must(t, d.Append("a", "XYZ"))
	if s != "abcd" {
		t.Error(s)
	}
	holds(t, d, "a", "aXYZ")
}

// Promise 2.3: names stand by bytes, rising, in whichever order they came; each answer is new memory.
func TestNames(t *testing.T) {
	want := []string{".", "..", "0", "10", "9", "a", "a.", "a0", "aa", "b", "z"}
	d := newDisk(t, 0)
	if l := d.Names(); len(l) != 0 {
		t.Error(l)
	}
	for i := range want {
		must(t, d.Append(want[i*7%len(want)], ""))
	}
	one, other := d.Names(), d.Names()
	if !slices.Equal(one, want) {
		t.Error(one)
	}
	clear(one[:cap(one)])
	if !slices.Equal(other, want) || !slices.Equal(d.Names(), want) {
		t.Error(other, d.Names())
	}
}

// Promise 2.3 and P1: a fuse that may not be, and the longest one.
func TestFuseRange(t *testing.T) {
	d := newDisk(t, 9)
	told(t, d.Fuse(-1), api.ErrRange)
	told(t, d.Fuse(math.MinInt), api.ErrRange)
	for range 10 {
		told(t, d.Append("a", ""), api.OK)
	}
	must(t, d.Fuse(1))
	told(t, d.Fuse(-1), api.ErrRange)
	told(t, d.Sync(), api.OK)
	told(t, d.Fuse(-1), api.ErrRange)
	told(t, d.Fuse(math.MaxInt), api.OK)
	told(t, d.Sync(), api.OK)
	must(t, d.Fuse(0))
	told(t, d.Fuse(-1), api.ErrRange)
	told(t, d.Sync(), api.ErrDown)
}

// Promise 2.4: too many draws are refused, and change nothing; api.MaxItems are not.
func TestCrashMostDraws(t *testing.T) {
	d := newDisk(t, 9)
	must(t, d.Append("a", "abc"))
	must(t, d.Fuse(1))
	tooMany := make([]int, api.MaxItems+1)
	told(t, d.Crash(tooMany), api.ErrLong)
	told(t, d.Append("a", "d"), api.OK)
	told(t, d.Append("a", "e"), api.ErrDown)
	told(t, d.Crash(tooMany), api.ErrLong)
	told(t, d.Append("a", "e"), api.ErrDown)
	holds(t, d, "a", "abcd")
	most := tooMany[:api.MaxItems]
	most[0] = 2
	told(t, d.Crash(most), api.OK)
	holds(t, d, "a", "ab")
	told(t, d.Append("a", "e"), api.OK)
}

// R4: draws stay as they are, behind their length too, and are not read there.
func TestCrashLeavesDraws(t *testing.T) {
	d := newDisk(t, 9)
	for _, name := range []string{"a", "b", "c"} {
		must(t, d.Append(name, "xyz"))
	}
	room := []int{1, 2, 3, 3}
	must(t, d.Crash(room[:2]))
	holds(t, d, "a", "x", "b", "xy", "c", "")
	if !slices.Equal(room, []int{1, 2, 3, 3}) {
		t.Error(room)
	}
}

// Promise 2.4: a draw for each tail, by names; none for a file without a tail; 0 when none is left.
func TestCrashDraws(t *testing.T) {
	for _, x := range []struct {
		draws []int
		want  []string
	}{
		{nil, []string{"a", "", "b", "safe", "c", "s", "d", "", "e", ""}},
		{[]int{}, []string{"a", "", "b", "safe", "c", "s", "d", "", "e", ""}},
		{[]int{1}, []string{"a", "1", "b", "safe", "c", "s", "d", "", "e", ""}},
		{[]int{2, 1}, []string{"a", "12", "b", "safe", "c", "s3", "d", "", "e", ""}},
		{[]int{0, 3, 1}, []string{"a", "", "b", "safe", "c", "s345", "d", "", "e", "6"}},
		{[]int{2, 3, 1, 9, 9}, []string{"a", "12", "b", "safe", "c", "s345", "d", "", "e", "6"}},
		{[]int{3, 4, 2}, []string{"a", "", "b", "safe", "c", "s", "d", "", "e", ""}},
		{[]int{4, 5, 3}, []string{"a", "1", "b", "safe", "c", "s3", "d", "", "e", "6"}},
		{[]int{-1, -1, -1}, []string{"a", "", "b", "safe", "c", "s", "d", "", "e", ""}},
		{[]int{-2, math.MinInt, 1}, []string{"a", "", "b", "safe", "c", "s", "d", "", "e", "6"}},
		{[]int{math.MaxInt, math.MaxInt, math.MaxInt}, []string{"a", "1", "b", "safe", "c", "s345", "d", "", "e", "6"}},
	} {
		d := newDisk(t, 20)
		must(t, d.Append("c", "s"))
		must(t, d.Append("b", "safe"))
		must(t, d.Append("d", ""))
		must(t, d.Sync())
		must(t, d.Append("e", "6"))
		must(t, d.Append("c", "345"))
		must(t, d.Append("a", "12"))
		told(t, d.Crash(x.draws), api.OK)
		holds(t, d, x.want...)
	}
}

// The chapter's example.
func TestExample(t *testing.T) {
	d := newDisk(t, 9)
	must(t, d.Append("a", "x"))
	must(t, d.Sync())
	must(t, d.Append("a", "yz"))
	must(t, d.Append("b", "q"))
	must(t, d.Crash([]int{1, 0}))
	holds(t, d, "a", "xy", "b", "")
	told(t, d.Append("a", "12345678"), api.ErrSpace)
}
