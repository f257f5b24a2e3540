package vals_test

import (
	"math"
	"slices"
	"strconv"
	"strings"
	"testing"

	"skylark/api"
	"skylark/disk"
	"skylark/vals"
)

// Promise 11.1: no disk is told ahead of all else; then a most outside of what it may be, ahead of what is on the disk, which stays.
func TestOpenRefuses(t *testing.T) {
	for _, most := range []int{1, 0, -1, api.MaxFrame, api.MaxFrame + 1} {
		if v, e := vals.Open(nil, most); v != nil || e != api.ErrNone {
			t.Error(most, v, e)
		}
	}
	for _, d := range []*disk.Disk{newDisk(t), with(t, "val.1", "zzzz"), with(t, "val.1", framed("a")+"z")} {
		was := contents(d)
		must(t, d.Fuse(0))
		for _, most := range []int{0, -1, api.MaxFrame + 1, math.MinInt, math.MaxInt} {
			if v, e := vals.Open(d, most); v != nil || e != api.ErrRange {
				t.Error(most, v, e)
			}
		}
		onDisk(t, d, was...)
	}
}

// Promise 11.1: a disk without files of values has none, at the edges of most; no file is made.
func TestOpenNothing(t *testing.T) {
	for _, d := range []*disk.Disk{newDisk(t), roomy(t, 0)} {
		for _, most := range []int{1, 2, api.MaxFrame - 1, api.MaxFrame} {
			v := opened(t, d, most)
			holds(t, v)
			noFile(t, v, 0)
			noFile(t, v, 1)
			onDisk(t, d)
		}
	}
}

// otherNames are names of files without values.
func otherNames() []string {
	return []string{
		"val", "val.", "val.0", "val.00", "val.01", "val.001", "val.1048577", "val.1048576.", "val.2000000", "val.10485760",
		"val.1a", "val.a1", "val.1.", "val..1", "val.1.1", "val.0x1", "val.1e1", "1", ".1", "al.1", "aval.1", ".val.1", "va.1", "val1", "vals.1", "log.1", "state.1",
		"val.9223372036854775808", "val.18446744073709551617", "val.0000000000000000000000000001", "val.9999999999999999999999999999",
	}
}

// Promises 11.1 to 11.3: files of other names are neither read, nor changed, nor removed, nor do they count.
func TestOpenOtherNames(t *testing.T) {
	for _, other := range otherNames() {
		for _, data := range []string{"", "z", "zzzzzzzz", framed("a"), framed("a") + "z"} {
			d := with(t, other, data)
			v := opened(t, d, 1)
			holds(t, v)
			for _, n := range []int{0, 1, 10, 2000000, 10485760, api.MaxIndex, api.MaxIndex + 1} {
				noFile(t, v, n)
			}
			placed(t, v, "x", 1, 0)
			placed(t, v, "y", 2, 0)
			holds(t, opened(t, d, 1), content{1, []string{"x"}}, content{2, []string{"y"}})
			if s, e := d.Read(other); s != data || e != api.OK {
				t.Errorf("%s: %q %v", other, s, e)
			}
		}
	}
}

// Promise 11.1: the least and the greatest number, and some between.
func TestOpenNumbers(t *testing.T) {
	for _, n := range []int{1, 2, 9, 10, 99, 100, 1 << 16, api.MaxIndex - 1, api.MaxIndex} {
		v := opened(t, with(t, name(n), lines("a", "")), 1)
		holds(t, v, content{n, []string{"a", ""}})
		noFile(t, v, n-1)
		noFile(t, v, n+1)
	}
}

// Promises 11.1 and 11.2: files rise by their numbers, not by their names, and may have gaps; the last one is the greatest.
func TestOpenByNumbers(t *testing.T) {
	d := with(t, "val.100", framed("e"), "val.9", framed("b"), "val.10", framed("c"), "val.2", framed("a"), "val.99", framed("d"))
	was := []content{{2, []string{"a"}}, {9, []string{"b"}}, {10, []string{"c"}}, {99, []string{"d"}}}
	v := opened(t, d, 10)
	holds(t, v, append(was, content{100, []string{"e"}})...)
	placed(t, v, "f", 100, 9)
	placed(t, v, "g", 101, 0)
	holds(t, v, append(was, content{100, []string{"e", "f"}}, content{101, []string{"g"}})...)
}

// Promise 11.1: what values may be: no bytes, any bytes, as many as there can be; files longer than most, and one as long as the disk.
func TestOpenValues(t *testing.T) {
	long := strings.Repeat("\xff\x00", api.MaxFrame/2)
	for _, l := range [][]string{{""}, {"", "", ""}, {"\x00"}, {framed("a")}, {long}, {long, "x", long, long}, {long, long, long, long[:api.MaxFrame-32]}} {
		d := with(t, "val.5", lines(l...))
		holds(t, opened(t, d, 1), content{5, l})
		onDisk(t, d, "val.5", lines(l...))
	}
}

// Promise 11.1: of each file that ends within a frame, be it the last one or not, the whole frames are left, wherever it ends.
func TestOpenTorn(t *testing.T) {
	values := []string{"abc", "", "d", "efghij"}
	whole := lines(values...)
	other := lines("one", "two")
	for n := range len(whole) + 1 {
		kept := 0
		for kept < 4 && len(lines(values[:kept+1]...)) <= n {
			kept++
		}
		for i := range 3 {
			files := []string{"val.3", other, "val.4", other, "val.5", other}
			all := []content{{3, []string{"one", "two"}}, {4, []string{"one", "two"}}, {5, []string{"one", "two"}}}
			files[2*i+1] = whole[:n]
			d := with(t, files...)
			v := opened(t, d, 20)
			all[i].values = values[:kept]
			files[2*i+1] = lines(values[:kept]...)
			onDisk(t, d, files...)
			holds(t, v, all...)
			seen(t, v).is(t, opened(t, d, 20))
		}
	}
}

// Promise 11.1: what stands behind the last whole frame is cut off whatever it is, whole frames behind a fault too.
func TestOpenEndsOtherwise(t *testing.T) {
	wrongSum := []byte(framed("bc"))
	wrongSum[len(wrongSum)-1]++
	for _, end := range []string{
		"z", "zzz", "zzzz",
		"\x00\x00\x01\x00", "\x00\x00\x01\x00zzz", "\x00\x00\x00\x00\x00\x00\x00",
		"\x01\x00\x01\x00", "\x01\x00\x01\x00zzz", "\xff\xff\xff\xff",
		string(wrongSum), string(wrongSum) + framed("d"), "z" + framed("d"),
		"\x00\x00\x00\x00\x00\x00\x00\x00", strings.Repeat("\x00", 100), strings.Repeat("z", 70000),
	} {
		for _, front := range [][]string{nil, {""}, {"a", "bb"}} {
			d := with(t, "val.1", lines(front...)+end, "val.2", framed("x"), "val.3", lines(front...)+end)
			v := opened(t, d, 20)
			holds(t, v, content{1, front}, content{2, []string{"x"}}, content{3, front})
			onDisk(t, d, "val.1", lines(front...), "val.2", framed("x"), "val.3", lines(front...))
		}
	}
}

// Promise 11.1: a byte changed leaves the values ahead of its frame, and no other value.
func TestOpenChanged(t *testing.T) {
	values := []string{"abc", "", "d", "efghij"}
	whole := lines(values...)
	for at := range len(whole) {
		ahead := 0
		for len(lines(values[:ahead+1]...)) <= at {
			ahead++
		}
		for _, by := range []byte{1, 2, 16, 128, 255} {
			b := []byte(whole)
			b[at] ^= by
			d := with(t, "val.1", string(b))
			holds(t, opened(t, d, 20), content{1, values[:ahead]})
			onDisk(t, d, "val.1", lines(values[:ahead]...))
		}
	}
}

// Promises 11.1 and 11.2: a file without a value stays one, and the next value may come into it.
func TestOpenWithoutValues(t *testing.T) {
	for _, end := range []string{"", "z", "\xff\xff\xff\xff"} {
		d := with(t, "val.3", end, "val.7", end)
		v := opened(t, d, 1)
		holds(t, v, content{3, nil}, content{7, nil})
		onDisk(t, d, "val.3", "", "val.7", "")
		notGot(t, v, api.Place{File: 7})
		placed(t, v, "a", 7, 0)
		placed(t, v, "b", 8, 0)
		holds(t, v, content{3, nil}, content{7, []string{"a"}}, content{8, []string{"b"}})
	}
}

// Promise 11.1: the disk goes down at a cut: files ahead of it, by numbers, are cut, those from it on are not.
func TestOpenGoesDown(t *testing.T) {
	torn := []int{2, 9, 10, 100}
	for fuse := range 5 {
		d := with(t, "val.2", framed("a")+"z", "val.3", framed("x"), "val.9", "z", "val.10", framed("c")+"zzzz", "val.100", framed("d")+framed("e")[:8])
		must(t, d.Fuse(fuse))
		v, e := vals.Open(d, 1)
		if fuse < 4 && (v != nil || e != api.ErrDown) || fuse == 4 && (v == nil || e != api.OK) {
			t.Error(fuse, v, e)
		}
		for i, n := range torn {
			s, _ := d.Read(name(n))
			if whole := len(s)%9 == 0; whole != (i < fuse) {
				t.Errorf("%d: %d %q", fuse, n, s)
			}
		}
		told(t, d.Sync(), api.ErrDown)
		must(t, d.Crash(nil))
		holds(t, opened(t, d, 1), content{2, []string{"a"}}, content{3, []string{"x"}}, content{9, nil}, content{10, []string{"c"}}, content{100, []string{"d"}})
	}
}

// Promise 11.1: a disk that is down is asked for nothing as long as nothing is to be cut off.
func TestOpenWhenDown(t *testing.T) {
	for _, files := range [][]string{{}, {"val.1", ""}, {"val.3", lines("a", ""), "val.5", framed("b"), "other", "z"}} {
		d := with(t, files...)
		must(t, d.Fuse(0))
		seen(t, opened(t, with(t, files...), 20)).is(t, opened(t, d, 20))
		told(t, d.Sync(), api.ErrDown)
		seen(t, opened(t, with(t, files...), 20)).is(t, opened(t, d, 20))
	}
}

// Promise 11.1: Open syncs nothing.
func TestOpenSyncsNothing(t *testing.T) {
	d := with(t, "val.1", framed("a"))
	must(t, d.Append("val.1", framed("b")+"z"))
	must(t, d.Append("other", "x"))
	holds(t, opened(t, d, 99), content{1, []string{"a", "b"}})
	must(t, d.Crash(nil))
	onDisk(t, d, "other", "", "val.1", framed("a"))
}

// Promise 11.1: as many files as a disk can have.
func TestOpenMostFiles(t *testing.T) {
	var files []string
	var numbers []int
	for n := 1; n <= api.MaxFiles; n++ {
		files = append(files, name(n*1000), framed(strconv.Itoa(n)))
		numbers = append(numbers, n*1000)
	}
	v := opened(t, with(t, files...), 1)
	if l := v.Files(); !slices.Equal(l, numbers) {
		t.Error(l)
	}
	for n := 1; n <= api.MaxFiles; n++ {
		s := strconv.Itoa(n)
		got(t, v, api.Place{File: n * 1000, Long: len(s)}, s)
	}
}
