package vals_test

import (
	"math"
	"slices"
	"strings"
	"testing"

	"skylark/api"
	"skylark/disk"
	"skylark/vals"
)

// sample is files 3, 9 and 12 with values, and 20 without.
func sample(t *testing.T) (*disk.Disk, *vals.Vals) {
	t.Helper()
	d := with(t, "val.3", lines("abc", "", "d"), "val.9", framed("abc"), "val.12", lines("", "efghij"), "val.20", "", "val.0", framed("abc"), "other", "x")
	return d, opened(t, d, 1)
}

// Promise 11.2: of all places just those at which values stand, with just so many bytes, are some.
func TestGet(t *testing.T) {
	_, v := sample(t)
	there := map[api.Place]string{
		{File: 3, Long: 3}: "abc", {File: 3, At: 11}: "", {File: 3, At: 19, Long: 1}: "d",
		{File: 9, Long: 3}: "abc", {File: 12}: "", {File: 12, At: 8, Long: 6}: "efghij",
	}
	for file := -1; file <= 21; file++ {
		for at := -9; at <= 40; at++ {
			for long := -2; long <= 12; long++ {
				p := api.Place{File: file, At: at, Long: long}
				if s, ok := there[p]; ok {
					got(t, v, p, s)
				} else {
					notGot(t, v, p)
				}
			}
		}
	}
}

// Promise 11.2 and P1: numbers as great, and as far below 0, as there are.
func TestGetFarAway(t *testing.T) {
	_, v := sample(t)
	far := []int{math.MinInt, math.MinInt + 1, math.MinInt32, -api.MaxIndex, -1, api.MaxFrame, api.MaxFrame + 1, api.MaxIndex, api.MaxIndex + 1, 1<<32 + 3, math.MaxInt32, math.MaxInt - 3, math.MaxInt}
	for _, n := range far {
		notGot(t, v, api.Place{File: n, Long: 3})
		notGot(t, v, api.Place{File: 3, At: n, Long: 3})
		notGot(t, v, api.Place{File: 3, Long: n})
		notGot(t, v, api.Place{File: n, At: n, Long: n})
		noFile(t, v, n)
	}
}

// Promise 11.2: a whole frame that stands within a value begins at its place as any other does, but is none of the file's places.
func TestGetWithin(t *testing.T) {
	v := opened(t, newDisk(t), 99)
	placed(t, v, framed("in"), 1, 0)
	got(t, v, api.Place{File: 1, At: 4, Long: 2}, "in")
	notGot(t, v, api.Place{File: 1, At: 4, Long: 3})
	holds(t, v, content{1, []string{framed("in")}})
}

// Promise 11.2: the longest value is got, and no place of one byte more or less.
func TestGetLong(t *testing.T) {
	v := opened(t, newDisk(t), 1)
	long := strings.Repeat("xyz\x00", api.MaxFrame/4)
	placed(t, v, long, 1, 0)
	for _, by := range []int{-1, 1} {
		notGot(t, v, api.Place{File: 1, Long: api.MaxFrame + by})
		notGot(t, v, api.Place{File: 1, At: by, Long: api.MaxFrame})
	}
}

// Promises 11.1 and 11.3: sizes and places of each file, and of none that is not there.
func TestSizesAndPlaces(t *testing.T) {
	_, v := sample(t)
	holds(t, v, content{3, []string{"abc", "", "d"}}, content{9, []string{"abc"}}, content{12, []string{"", "efghij"}}, content{20, nil})
	for _, n := range []int{-3, -1, 0, 1, 2, 4, 8, 10, 11, 13, 19, 21, 30} {
		noFile(t, v, n)
	}
	for i, x := range []struct {
		file, size int
		places     []api.Place
	}{
		{3, 28, []api.Place{{File: 3, Long: 3}, {File: 3, At: 11}, {File: 3, At: 19, Long: 1}}},
		{12, 22, []api.Place{{File: 12}, {File: 12, At: 8, Long: 6}}},
		{20, 0, nil},
	} {
		if n, e := v.Size(x.file); n != x.size || e != api.OK {
			t.Error(i, n, e)
		}
		if l, e := v.Places(x.file); !slices.Equal(l, x.places) || e != api.OK {
			t.Error(i, l, e)
		}
	}
}

// Promise 11.3: as many places as a disk has room for.
func TestPlacesMany(t *testing.T) {
	many := api.MaxBytes / 8
	v := opened(t, with(t, "val.1", strings.Repeat(framed(""), many)), 1)
	l, e := v.Places(1)
	if len(l) != many || e != api.OK {
		t.Fatal(len(l), e)
	}
	for i, p := range l {
		if p != (api.Place{File: 1, At: 8 * i}) {
			t.Fatal(i, p)
		}
	}
}

// Promise 11.3: what is removed is there no more, on the disk too; all else stays.
func TestRemove(t *testing.T) {
	for _, n := range []int{3, 9, 12, 20} {
		d, v := sample(t)
		was := seen(t, v)
		must(t, v.Remove(n))
		noFile(t, v, n)
		if l := v.Files(); !slices.Equal(l, slices.DeleteFunc(slices.Clone(was.files), func(f int) bool { return f == n })) {
			t.Error(n, l)
		}
		for i, p := range was.places {
			if p.File == n {
				notGot(t, v, p)
			} else {
				got(t, v, p, was.values[i])
			}
		}
		if slices.Contains(d.Names(), name(n)) || len(d.Names()) != 5 {
			t.Error(n, d.Names())
		}
		must(t, d.Crash(nil))
		seen(t, v).is(t, opened(t, d, 1))
	}
}

// Promise 11.3: a removal takes one call of the disk; one that the disk refuses leaves the file, and no such file is told ahead of a disk that is down.
func TestRemoveGoesDown(t *testing.T) {
	d, v := sample(t)
	must(t, d.Fuse(1))
	noFile(t, v, 4)
	must(t, v.Remove(9))
	was := seen(t, v)
	told(t, v.Remove(3), api.ErrDown)
	told(t, v.Remove(9), api.ErrValue)
	told(t, v.Remove(4), api.ErrValue)
	was.is(t, v)
	must(t, d.Crash(nil))
	was.is(t, opened(t, d, 1))
}

// Rule R5: what tells changes nothing on the disk, and takes nothing of its fuse.
func TestTellingLeavesDisk(t *testing.T) {
	d, v := sample(t)
	was := contents(d)
	must(t, d.Append("val.20", framed("z")))
	must(t, d.Fuse(0))
	seen(t, v)
	noFile(t, v, 1)
	must(t, d.Fuse(1))
	told(t, d.Cut("val.20", 0), api.OK)
	onDisk(t, d, was...)
}

// Rule R4: answers share no memory, neither with each other nor with what is kept, spare room too.
func TestAnswersApart(t *testing.T) {
	_, v := sample(t)
	was := seen(t, v)
	files, others := v.Files(), v.Files()
	places, e := v.Places(3)
	must(t, e)
	otherPlaces, e := v.Places(3)
	must(t, e)
	clear(files[:cap(files)])
	clear(places[:cap(places)])
	if !slices.Equal(others, was.files) || !slices.Equal(otherPlaces, was.places[:3]) {
		t.Error(others, otherPlaces)
	}
	was.is(t, v)
	must(t, v.Remove(3))
	placed(t, v, "new", 20, 0)
	if !slices.Equal(others, was.files) {
		t.Error(others)
	}
}

// Promise P1: whatever somebody else does to the files, each call ends, and tells what is there.
func TestChangedBehindItsBack(t *testing.T) {
	d, v := sample(t)
	must(t, d.Remove("val.20"))
	noFile(t, v, 20)
	must(t, d.Cut("val.12", 21))
	notGot(t, v, api.Place{File: 12, At: 8, Long: 6})
	got(t, v, api.Place{File: 12}, "")
	if l, e := v.Places(12); !slices.Equal(l, []api.Place{{File: 12}}) || e != api.OK {
		t.Error(l, e)
	}
	must(t, d.Rename("val.3", "val.30"))
	noFile(t, v, 3)
	got(t, v, api.Place{File: 30, Long: 3}, "abc")
	placed(t, v, "z", 31, 0)
}
