package wal_test

import (
	"math"
	"slices"
	"strings"
	"testing"

	"skylark/api"
	"skylark/disk"
	"skylark/wal"
)

// Promise 10.1: no disk is told ahead of all else; then a most outside of what it may be, ahead of what is on the disk.
func TestOpenRefuses(t *testing.T) {
	for _, most := range []int{1, 0, -1, api.MaxFrame + 1} {
		if w, e := wal.Open(nil, most); w != nil || e != api.ErrNone {
			t.Error(most, w, e)
		}
	}
	for _, d := range []*disk.Disk{newDisk(t), with(t, "log.1", "zzzzzzzzz"), with(t, "log.1", line(rec(1))+"z")} {
		for _, most := range []int{0, -1, api.MaxFrame + 1, math.MinInt, math.MaxInt} {
			refused(t, d, most, api.ErrRange)
		}
	}
}

// Promises 10.1 and 10.2: a disk without a segment, whatever else lies there, has a log without records, and no file is made.
func TestOpenNothing(t *testing.T) {
	for _, most := range []int{1, 20, api.MaxFrame} {
		d := newDisk(t)
		holds(t, opened(t, d, most), nil)
		onDisk(t, d)
	}
	d := roomy(t, 0)
	holds(t, opened(t, d, 1), nil)
	onDisk(t, d)
}

// otherNames are names of files that are no segments.
func otherNames() []string {
	return []string{
		"log", "log.", "log.0", "log.00", "log.01", "log.001", "log.1048577", "log.1048576.", "log.2000000", "log.10485760",
		"log.1a", "log.a1", "log.1.", "log..1", "log.1.1", "log.0x1", "log.1e1", "1", ".1", "og.1", "alog.1", ".log.1", "lo.1", "log1", "logs.1", "val.1", "state.1",
		"log.9223372036854775808", "log.18446744073709551617", "log.0000000000000000000000000001", "log.9999999999999999999999999999",
	}
}

// Promise 10.1: files of other names are no segments: they are neither read nor changed.
func TestOpenOtherNames(t *testing.T) {
	for _, other := range otherNames() {
		for _, data := range []string{"", "z", "zzzzzzzz", line(rec(1)), line(rec(9))} {
			d := with(t, other, data)
			w := opened(t, d, 1)
			holds(t, w, nil)
			appended(t, w, rec(1))
			holds(t, opened(t, d, 1), []int{1}, rec(1))
			if s, e := d.Read(other); s != data || e != api.OK {
				t.Errorf("%s: %q %v", other, s, e)
			}
		}
	}
}

// Promise 10.1: the least and the greatest number of a segment.
func TestOpenNumbers(t *testing.T) {
	for _, n := range []int{1, 2, 9, 10, 99, 100, 1 << 16, api.MaxIndex - 1, api.MaxIndex} {
		holds(t, opened(t, with(t, name(n), line(rec(n))), 1), []int{n}, rec(n))
	}
}

// Promise 10.1: segments are read by their numbers, not by their names: 10 behind 9, 100 behind 99.
func TestOpenByNumbers(t *testing.T) {
	for _, from := range []int{1, 8, 97, 999} {
		d := newDisk(t)
		var segments []int
		for n := from; n < from+6; n++ {
			put(t, d, name(n), line(rec(n)))
			segments = append(segments, n)
		}
		w := opened(t, d, 1)
		holds(t, w, segments, recs(from, from+6)...)
		appended(t, w, rec(from+6))
		holds(t, w, append(segments, from+6), recs(from, from+7)...)
	}
	d := with(t, "log.12", lines(recs(12, 102)...), "log.102", lines(recs(102, 104)...), "log.9", lines(recs(9, 12)...))
	holds(t, opened(t, d, 1), []int{9, 12, 102}, recs(9, 104)...)
}

// Promise 10.1: all that a record may be: the first and the last brick, an empty body and a long one.
func TestOpenRecords(t *testing.T) {
	long := strings.Repeat("\xff\x00", 30000)
	for _, r := range []api.Record{{Seq: 5}, {Seq: 5, Brick: api.MaxNodes - 1}, {Seq: 5, Body: long}, {Seq: 5, Brick: 3, Body: "T\x01\x01a"}} {
		d := with(t, "log.5", line(r))
		holds(t, opened(t, d, 1), []int{5}, r)
		onDisk(t, d, "log.5", line(r))
	}
}

// Promise 10.1 and rule R2: what Append would refuse, but Open does not name: a body above 60000 bytes, numbers above api.MaxIndex.
func TestOpenMoreThanAppended(t *testing.T) {
	long := api.Record{Seq: 1, Body: strings.Repeat("x", 65000)}
	holds(t, opened(t, with(t, "log.1", line(long)), 1), []int{1}, long)
	w := opened(t, with(t, name(api.MaxIndex), lines(recs(api.MaxIndex, api.MaxIndex+3)...)), 1)
	holds(t, w, []int{api.MaxIndex}, recs(api.MaxIndex, api.MaxIndex+3)...)
	notAppended(t, w, 0, "", api.ErrLong)
}

// notRecords are bodies of frames that are the list of no record 1 or 2.
func notRecords() []string {
	return []string{
		"",
		"z",
		number(1),
		number(1) + number(0),
		number(1) + number(0) + number(0),
		number(1) + number(0) + text("a") + text(""),
		number(1) + number(0) + text("a") + number(0),
		number(1) + number(0) + text("a") + "z",
		number(1) + number(0) + text("a")[:3],
		number(1) + number(0) + "T\x02\x01\x00a",
		number(1) + text("a") + text("a"),
		number(1) + text("") + text("a"),
		number(1) + text("a") + number(0),
		text("1") + number(0) + text("a"),
		text("") + number(0) + text("a"),
		text("a") + number(0) + number(1),
		number(1) + number(-1) + text("a"),
		number(1) + number(api.MaxNodes) + text("a"),
		number(1) + number(math.MaxInt64) + text("a"),
		number(1) + number(math.MinInt64) + text("a"),
		number(1) + number(1<<32) + text("a"),
		number(0) + number(0) + text("a"),
		number(3) + number(0) + text("a"),
		number(-1) + number(0) + text("a"),
		number(1<<32+1) + number(0) + text("a"),
		number(math.MinInt64) + number(0) + text("a"),
	}
}

// Promise 10.1: a frame whose body is no record, or that of another number, is told, wherever it stands.
func TestOpenNotRecords(t *testing.T) {
	for _, body := range notRecords() {
		refused(t, with(t, "log.1", framed(body)), 20, api.ErrCorrupt)
		refused(t, with(t, "log.1", framed(body)+line(rec(2))), 20, api.ErrCorrupt)
		refused(t, with(t, "log.1", framed(body)+"z"), 20, api.ErrCorrupt)
		refused(t, with(t, "log.1", framed(body), "log.2", line(rec(2))), 20, api.ErrCorrupt)
		refused(t, with(t, "log.1", line(rec(1))+framed(body)), 20, api.ErrCorrupt)
		refused(t, with(t, "log.1", line(rec(1)), "log.2", framed(body)), 20, api.ErrCorrupt)
	}
}

// Promise 10.1: numbers with a gap, numbers twice, and first numbers that are not the name's.
func TestOpenGaps(t *testing.T) {
	for _, files := range [][]string{
		{"log.1", lines(rec(1), rec(3))},
		{"log.1", lines(rec(1), rec(1))},
		{"log.1", lines(rec(1), rec(2), rec(1))},
		{"log.1", lines(rec(2), rec(3))},
		{"log.2", lines(rec(1), rec(2))},
		{"log.2", lines(rec(1))},
		{"log.10", lines(rec(1))},
		{"log.1", lines(rec(1)), "log.3", lines(rec(3))},
		{"log.1", lines(rec(1), rec(2)), "log.2", lines(rec(2))},
		{"log.1", lines(rec(1), rec(2)), "log.2", lines(rec(3))},
		{"log.1", lines(rec(1)), "log.3", lines(rec(2))},
		{"log.1", lines(rec(1)), "log.2", lines(rec(3))},
		{"log.1", lines(rec(1)), "log.2", lines(rec(1))},
		{"log.1", lines(rec(1)), "log.2", lines(rec(2)), "log.4", lines(rec(4))},
		{"log.9", lines(rec(9)), "log.11", lines(rec(11))},
	} {
		d := with(t, files...)
		refused(t, d, 20, api.ErrCorrupt)
		must(t, d.Append(files[len(files)-2], "\x09"))
		refused(t, d, 20, api.ErrCorrupt)
	}
}

// Promise 10.1: a segment without a record, whole or cut off, is none that another one may follow, be it the first one or not; nor may the last one be without if its number is not the next.
func TestOpenWithoutRecords(t *testing.T) {
	for _, files := range [][]string{
		{"log.1", "", "log.2", lines(rec(2))},
		{"log.1", lines(rec(1)), "log.2", "", "log.3", lines(rec(3))},
		{"log.1", lines(rec(1)), "log.2", "", "log.3", lines(rec(2))},
		{"log.1", lines(rec(1), rec(2)), "log.2", "", "log.3", lines(rec(3))},
		{"log.1", "", "log.2", ""},
		{"log.1", lines(rec(1)), "log.2", "", "log.3", ""},
		{"log.1", lines(rec(1)), "log.3", ""},
		{"log.1", lines(rec(1), rec(2)), "log.2", ""},
		{"log.1", lines(rec(1)), "log.3", "\x09"},
	} {
		refused(t, with(t, files...), 20, api.ErrCorrupt)
	}
}

// Promise 10.1: of a last segment that ends within a frame the whole frames are left, wherever it ends.
func TestOpenTorn(t *testing.T) {
	whole := lines(recs(4, 8)...)
	for n := range len(whole) + 1 {
		d := with(t, "log.1", lines(recs(1, 4)...), "log.4", whole[:n])
		w := opened(t, d, 20)
		kept := 0
		for kept < 4 && len(lines(recs(4, 5+kept)...)) <= n {
			kept++
		}
		if kept == 0 {
			onDisk(t, d, "log.1", lines(recs(1, 4)...))
			holds(t, w, []int{1}, recs(1, 4)...)
		} else {
			onDisk(t, d, "log.1", lines(recs(1, 4)...), "log.4", lines(recs(4, 4+kept)...))
			holds(t, w, []int{1, 4}, recs(1, 4+kept)...)
		}
		seen(t, w).is(t, opened(t, d, 20))
		appended(t, w, rec(4+kept))
		seen(t, w).is(t, opened(t, d, 20))
	}
}

// Promise 10.1: of an only segment as much is left as of a last one; it stays without a record, and its number is the next.
func TestOpenTornOnly(t *testing.T) {
	for _, first := range []int{1, 4, api.MaxIndex - 2} {
		whole := lines(recs(first, first+2)...)
		one := len(line(rec(first)))
		for n := range len(whole) {
			d := with(t, name(first), whole[:n])
			w := opened(t, d, 1)
			kept := 0
			if n >= one {
				kept = 1
			}
			onDisk(t, d, name(first), whole[:kept*one])
			holds(t, w, []int{first}, recs(first, first+kept)...)
			seen(t, w).is(t, opened(t, d, 1))
			appended(t, w, rec(first+kept))
			seen(t, w).is(t, opened(t, d, 1))
		}
	}
}

// Promise 10.1: a segment that is not the last one and ends within a frame is told; so is any other that has lost bytes, at whichever place.
func TestOpenTornAhead(t *testing.T) {
	files := []string{"log.1", lines(recs(1, 4)...), "log.4", lines(recs(4, 6)...), "log.6", line(rec(6))}
	for i := 0; i < 4; i += 2 {
		for n := range len(files[i+1]) {
			for _, last := range []string{files[5], "", "\x09"} {
				cut := slices.Clone(files)
				cut[i+1], cut[5] = cut[i+1][:n], last
				refused(t, with(t, cut...), 20, api.ErrCorrupt)
			}
		}
	}
}

// Promise 10.1: what ends a last segment, other than a frame's beginning, is told.
func TestOpenEndsOtherwise(t *testing.T) {
	wrongSum := []byte(line(rec(2)))
	wrongSum[len(wrongSum)-1]++
	for _, end := range []string{
		"zzzz",
		"\x01\x00\x01\x00",
		"\x01\x00\x01\x00zzz",
		"\xff\xff\xff\xff",
		string(wrongSum),
		string(wrongSum) + line(rec(3)),
		"\x00\x00\x00\x00\x00\x00\x00\x00",
		"\x00\x00\x00\x00\x01\x00\x04\x00",
		strings.Repeat("\x00", 100),
	} {
		refused(t, with(t, "log.1", end), 20, api.ErrCorrupt)
		refused(t, with(t, "log.1", line(rec(1))+end), 20, api.ErrCorrupt)
		refused(t, with(t, "log.1", line(rec(1)), "log.2", end), 20, api.ErrCorrupt)
	}
	for _, end := range []string{"z", "zzz", "\x00\x00\x01\x00", "\x00\x00\x01\x00zzz", "\x00\x00\x00\x00\x00\x00\x00"} {
		d := with(t, "log.1", line(rec(1))+end)
		holds(t, opened(t, d, 20), []int{1}, rec(1))
		onDisk(t, d, "log.1", line(rec(1)))
	}
}

// Promise 10.1: one byte changed is told, unless it lets the last segment end within a frame.
func TestOpenChanged(t *testing.T) {
	files := []string{"log.1", lines(recs(1, 4)...), "log.4", lines(recs(4, 7)...)}
	for i := 1; i < 4; i += 2 {
		for at := range len(files[i]) {
			for _, by := range []byte{1, 2, 16, 128} {
				b := []byte(files[i])
				b[at] ^= by
				changed := slices.Clone(files)
				changed[i] = string(b)
				d := with(t, changed...)
				w, e := wal.Open(d, 20)
				if e == api.ErrCorrupt {
					onDisk(t, d, changed...)
					continue
				}
				if e != api.OK || i == 1 {
					t.Fatal(i, at, by, e)
				}
				l, _ := w.Read(1, 9)
				if len(l) < 3 || len(l) > 5 || !slices.Equal(l, recs(1, 1+len(l))) {
					t.Error(i, at, by, l)
				}
			}
		}
	}
}

// Promise 10.1: a disk that is down is asked for nothing as long as nothing is to be taken away.
func TestOpenWhenDown(t *testing.T) {
	for _, files := range [][]string{{}, {"log.1", ""}, {"log.3", lines(recs(3, 5)...), "log.5", line(rec(5))}} {
		d := with(t, files...)
		must(t, d.Fuse(0))
		seen(t, opened(t, with(t, files...), 20)).is(t, opened(t, d, 20))
		told(t, d.Sync(), api.ErrDown)
		seen(t, opened(t, with(t, files...), 20)).is(t, opened(t, d, 20))
	}
}

// Promise 10.1: what the disk refuses: the cut, and, if no record is left, the removal behind it. What is corrupt is told ahead of both.
func TestOpenGoesDown(t *testing.T) {
	one := line(rec(1))
	for _, x := range []struct {
		fuse  int
		files []string
		want  api.Errno
		left  []string
	}{
		{0, []string{"log.1", one + "z"}, api.ErrDown, []string{"log.1", one + "z"}},
		{1, []string{"log.1", one + "z"}, api.OK, []string{"log.1", one}},
		{0, []string{"log.1", "z"}, api.ErrDown, []string{"log.1", "z"}},
		{1, []string{"log.1", "z"}, api.OK, []string{"log.1", ""}},
		{0, []string{"log.1", one, "log.2", ""}, api.ErrDown, []string{"log.1", one, "log.2", ""}},
		{1, []string{"log.1", one, "log.2", ""}, api.OK, []string{"log.1", one}},
		{0, []string{"log.1", one, "log.2", "z"}, api.ErrDown, []string{"log.1", one, "log.2", "z"}},
		{1, []string{"log.1", one, "log.2", "z"}, api.ErrDown, []string{"log.1", one, "log.2", ""}},
		{2, []string{"log.1", one, "log.2", "z"}, api.OK, []string{"log.1", one}},
		{0, []string{"log.1", one + "z", "log.2", "z"}, api.ErrCorrupt, []string{"log.1", one + "z", "log.2", "z"}},
	} {
		d := with(t, x.files...)
		must(t, d.Fuse(x.fuse))
		if w, e := wal.Open(d, 1); e != x.want || (w == nil) != (e != api.OK) {
			t.Error(x.fuse, x.files, w, e)
		}
		onDisk(t, d, x.left...)
		if x.want == api.OK {
			told(t, d.Sync(), api.ErrDown)
		}
	}
}

// Promise 10.1: Open syncs nothing, and a torn end that it cuts off is gone at once.
func TestOpenSyncsNothing(t *testing.T) {
	d := with(t, "log.1", line(rec(1)))
	must(t, d.Append("log.1", line(rec(2))+"z"))
	must(t, d.Append("other", "x"))
	holds(t, opened(t, d, 99), []int{1}, recs(1, 3)...)
	must(t, d.Crash(nil))
	onDisk(t, d, "log.1", line(rec(1)), "other", "")
}
