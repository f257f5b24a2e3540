package vals_test

import (
	"strconv"
	"strings"
	"testing"

	"skylark/api"
	"skylark/vals"
)

// The chapter's example.
func TestExample(t *testing.T) {
	v := opened(t, newDisk(t), 1)
	placed(t, v, "ab", 1, 0)
	placed(t, v, "c", 2, 0)
	got(t, v, api.Place{File: 1, Long: 2}, "ab")
	notGot(t, v, api.Place{File: 1, Long: 3})
	holds(t, v, content{1, []string{"ab"}}, content{2, []string{"c"}})
}

// Promise 11.2: what stands on the disk, byte for byte.
func TestPutBytes(t *testing.T) {
	d := newDisk(t)
	v := opened(t, d, 11)
	placed(t, v, "abc", 1, 0)
	onDisk(t, d, "val.1", "\x03\x00\x00\x00abc\x2a\x01\x66\x02")
	placed(t, v, "", 2, 0)
	onDisk(t, d, "val.1", framed("abc"), "val.2", "\x00\x00\x00\x00\x01\x00\x04\x00")
	d = newDisk(t)
	v = opened(t, d, api.MaxFrame)
	var all []string
	at := 0
	for _, s := range []string{"", "\x00\xff", "", strings.Repeat("x", 255), strings.Repeat("y", 256), framed("z"), strings.Repeat("\xff", api.MaxFrame)} {
		placed(t, v, s, 1, at)
		at += len(s) + 8
		all = append(all, s)
		onDisk(t, d, "val.1", lines(all...))
		holds(t, v, content{1, all})
	}
}

// Promise 11.2: api.MaxFrame bytes are taken, one more are not; that takes nothing of the fuse, and is told of a disk that is full or down, too.
func TestPutLong(t *testing.T) {
	long := strings.Repeat("x", api.MaxFrame)
	d := roomy(t, 2*len(framed(long)))
	v := opened(t, d, api.MaxFrame)
	for file := 1; file <= 2; file++ {
		must(t, d.Fuse(1))
		for _, more := range []string{"x", "xx", long, strings.Repeat(long, 5)} {
			notPlaced(t, v, long+more, api.ErrLong)
		}
		placed(t, v, long, file, 0)
	}
	notPlaced(t, v, long+"x", api.ErrLong)
	notPlaced(t, v, "", api.ErrSpace)
	told(t, d.Sync(), api.ErrDown)
	notPlaced(t, v, long+"x", api.ErrLong)
	notPlaced(t, v, "", api.ErrSpace)
}

// Promise 11.2: a new file is begun when the last one has most bytes, or more, and not when it has one less, whether it was put or found there.
func TestPutBegins(t *testing.T) {
	for _, size := range []int{8, 9, 20, 1000, api.MaxFrame} {
		s := strings.Repeat("a", size-8)
		for _, found := range []bool{false, true} {
			for _, most := range []int{size - 1, size, size + 1} {
				if most > api.MaxFrame {
					continue
				}
				d := newDisk(t)
				v := opened(t, d, most)
				placed(t, v, s, 1, 0)
				if found {
					v = opened(t, d, most)
				}
				if size < most {
					placed(t, v, "b", 1, size)
					holds(t, v, content{1, []string{s, "b"}})
				} else {
					placed(t, v, "b", 2, 0)
					holds(t, v, content{1, []string{s}}, content{2, []string{"b"}})
				}
			}
		}
	}
	v := opened(t, newDisk(t), 1)
	placed(t, v, "", 1, 0)
	placed(t, v, "", 2, 0)
}

// Promise 11.2: the last file's bytes count, not what comes: a file below most takes a value of any length.
func TestPutBeyondMost(t *testing.T) {
	v := opened(t, newDisk(t), 9)
	long := strings.Repeat("x", api.MaxFrame)
	placed(t, v, "", 1, 0)
	placed(t, v, long, 1, 8)
	placed(t, v, long, 2, 0)
	placed(t, v, "", 3, 0)
}

// Promise 11.2: a new file's number is behind the greatest that was there since Open, removed or not; those that were gone ahead of Open do not count.
func TestPutNumbers(t *testing.T) {
	d := with(t, "val.2", framed("a"), "val.5", framed("b"))
	v := opened(t, d, 1)
	placed(t, v, "c", 6, 0)
	must(t, v.Remove(6))
	placed(t, v, "d", 7, 0)
	must(t, v.Remove(5))
	placed(t, v, "e", 8, 0)
	for _, n := range []int{8, 7, 2} {
		must(t, v.Remove(n))
	}
	holds(t, v)
	placed(t, v, "f", 9, 0)
	must(t, v.Remove(9))

	v = opened(t, d, 1)
	holds(t, v)
	placed(t, v, "g", 1, 0)

	d = with(t, "val.2", framed("a"), "val.5", framed("b"))
	v = opened(t, d, 1)
	must(t, v.Remove(5))
	placed(t, v, "c", 6, 0)
	must(t, v.Remove(6))
	placed(t, opened(t, d, 1), "d", 3, 0)
}

// Promise 11.2: when the last file was removed, the one ahead of it is the last: values come into it as long as it has room, at its end.
func TestPutBehindRemoved(t *testing.T) {
	d := with(t, "val.1", framed("a"), "val.3", framed("b"), "val.4", framed("c"))
	v := opened(t, d, 10)
	must(t, v.Remove(4))
	placed(t, v, "d", 3, 9)
	placed(t, v, "e", 5, 0)
	must(t, v.Remove(5))
	must(t, v.Remove(3))
	placed(t, v, "f", 1, 9)
	placed(t, v, "g", 6, 0)
	holds(t, v, content{1, []string{"a", "f"}}, content{6, []string{"g"}})
	seen(t, v).is(t, opened(t, d, 10))
}

// Promise 11.2: the file api.MaxIndex is the last that can be begun; it takes values as long as it has room, and so does another one, if that is the last.
func TestPutMostNumber(t *testing.T) {
	d := with(t, "val.4", framed("a"), name(api.MaxIndex-1), framed("b"))
	v := opened(t, d, 10)
	placed(t, v, "c", api.MaxIndex-1, 9)
	placed(t, v, "d", api.MaxIndex, 0)
	placed(t, v, "e", api.MaxIndex, 9)
	for range 2 {
		must(t, d.Fuse(0))
		notPlaced(t, v, "", api.ErrLong)
		v = opened(t, d, 10)
		notPlaced(t, v, "", api.ErrLong)
	}
	must(t, d.Fuse(100))
	must(t, v.Remove(api.MaxIndex))
	notPlaced(t, v, "f", api.ErrLong)
	must(t, v.Remove(api.MaxIndex-1))
	placed(t, v, "f", 4, 9)
	notPlaced(t, v, "g", api.ErrLong)
	must(t, v.Remove(4))
	holds(t, v)
	notPlaced(t, v, "g", api.ErrLong)
	placed(t, opened(t, d, 10), "g", 1, 0)
}

// Promise 11.2: all numbers up to api.MaxIndex, one by one.
func TestPutAllNumbers(t *testing.T) {
	v := opened(t, newDisk(t), 1)
	for n := 1; n <= api.MaxIndex; n++ {
		if p, e := v.Put("x"); p != (api.Place{File: n, Long: 1}) || e != api.OK {
			t.Fatal(n, p, e)
		}
		if e := v.Remove(n); e != api.OK {
			t.Fatal(n, e)
		}
	}
	notPlaced(t, v, "x", api.ErrLong)
}

// Promise 11.2 and rule R5: on a disk that is full all is as it was, no number is used up, and it goes on when there is room.
func TestPutFull(t *testing.T) {
	y, z := strings.Repeat("y", 19), strings.Repeat("z", 52)
	for _, x := range []struct {
		most          int
		second, third api.Place
	}{
		{1, api.Place{File: 2}, api.Place{File: 3}},
		{20, api.Place{File: 1, At: 13}, api.Place{File: 2}},
		{api.MaxFrame, api.Place{File: 1, At: 13}, api.Place{File: 1, At: 40}},
	} {
		d := roomy(t, 100)
		must(t, d.Append("other", strings.Repeat("x", 60)))
		v := opened(t, d, x.most)
		placed(t, v, "abcde", 1, 0)
		for range 3 {
			notPlaced(t, v, y+"y", api.ErrSpace)
			seen(t, v).is(t, opened(t, d, x.most))
		}
		placed(t, v, y, x.second.File, x.second.At)
		notPlaced(t, v, "", api.ErrSpace)
		must(t, d.Remove("other"))
		placed(t, v, z, x.third.File, x.third.At)
		got(t, v, api.Place{File: 1, Long: 5}, "abcde")
		seen(t, v).is(t, opened(t, d, x.most))
	}
}

// Promise 11.2: just as much room as a value needs, and one byte less.
func TestPutRoom(t *testing.T) {
	for _, most := range []int{1, 99} {
		v := opened(t, roomy(t, 20), most)
		if _, e := v.Put("ab"); e != api.OK {
			t.Error(e)
		}
		if _, e := v.Put("cd"); e != api.OK {
			t.Error(e)
		}
		v = opened(t, roomy(t, 19), most)
		placed(t, v, "ab", 1, 0)
		notPlaced(t, v, "cd", api.ErrSpace)
	}
	notPlaced(t, opened(t, roomy(t, 7), 1), "", api.ErrSpace)
	placed(t, opened(t, roomy(t, 8), 1), "", 1, 0)
}

// Promises 11.2 and 11.3: as many files as a disk can have; removed ones make room for others.
func TestPutMostFiles(t *testing.T) {
	d := newDisk(t)
	v := opened(t, d, 1)
	for n := 1; n <= api.MaxFiles; n++ {
		placed(t, v, strconv.Itoa(n), n, 0)
	}
	for range 2 {
		notPlaced(t, v, "", api.ErrSpace)
	}
	must(t, v.Remove(3))
	placed(t, v, "more", api.MaxFiles+1, 0)
	notPlaced(t, v, "", api.ErrSpace)
	must(t, v.Remove(api.MaxFiles+1))
	placed(t, v, "more", api.MaxFiles+2, 0)
	seen(t, v).is(t, opened(t, d, 1))
}

// Promise 11.2: behind a refusal for want of files the first value still begins the file 1.
func TestPutFullAtFirst(t *testing.T) {
	d := newDisk(t)
	for i := range api.MaxFiles {
		must(t, d.Append("f"+strconv.Itoa(i), ""))
	}
	v := opened(t, d, 1)
	notPlaced(t, v, "", api.ErrSpace)
	holds(t, v)
	must(t, d.Remove("f0"))
	placed(t, v, "a", 1, 0)
}

// Promise 11.2: a value takes one call of the disk, in a new file too; a disk that goes down at it has nothing of it.
func TestPutGoesDown(t *testing.T) {
	for _, most := range []int{1, 99} {
		for _, files := range [][]string{nil, {"val.4", ""}, {"val.4", framed("a")}} {
			d := with(t, files...)
			v := opened(t, d, most)
			must(t, d.Fuse(1))
			if _, e := v.Put("b"); e != api.OK {
				t.Error(most, files, e)
			}
			was := contents(d)
			notPlaced(t, v, "c", api.ErrDown)
			notPlaced(t, v, "", api.ErrDown)
			onDisk(t, d, was...)
		}
	}
}

// Promise 11.2: nothing is synced, neither what is put nor anything else, in a new file neither.
func TestPutSyncsNothing(t *testing.T) {
	d := with(t, "val.1", framed("a"))
	must(t, d.Append("other", "x"))
	v := opened(t, d, 10)
	placed(t, v, "b", 1, 9)
	placed(t, v, "c", 2, 0)
	must(t, d.Crash(nil))
	onDisk(t, d, "other", "", "val.1", framed("a"), "val.2", "")
	holds(t, opened(t, d, 10), content{1, []string{"a"}}, content{2, nil})
}

// Rule R7: values of unlike disks have nothing to do with each other.
func TestValuesApart(t *testing.T) {
	var all []*vals.Vals
	for range 3 {
		all = append(all, opened(t, newDisk(t), 1))
	}
	placed(t, all[1], "a", 1, 0)
	placed(t, all[2], "b", 1, 0)
	placed(t, all[2], "c", 2, 0)
	holds(t, all[0])
	holds(t, all[1], content{1, []string{"a"}})
	holds(t, all[2], content{1, []string{"b"}}, content{2, []string{"c"}})
}
