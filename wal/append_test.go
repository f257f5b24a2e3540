package wal_test

import (
	"math"
	"slices"
	"strconv"
	"strings"
	"testing"

	"skylark/api"
	"skylark/disk"
	"skylark/wal"
)

// Promise 10.2: bricks that there are not, ahead of bodies that are too long; nothing is written.
func TestAppendRefuses(t *testing.T) {
	const most = 60000
	d := newDisk(t)
	w := opened(t, d, api.MaxFrame)
	for range 2 {
		was := contents(d)
		for _, brick := range []int{-1, api.MaxNodes, math.MinInt, math.MaxInt} {
			notAppended(t, w, brick, "", api.ErrRange)
			notAppended(t, w, brick, strings.Repeat("x", most+1), api.ErrRange)
		}
		for _, n := range []int{most + 1, most + 2, api.MaxFrame, api.MaxBytes + 1} {
			notAppended(t, w, 0, strings.Repeat("x", n), api.ErrLong)
			notAppended(t, w, api.MaxNodes-1, strings.Repeat("x", n), api.ErrLong)
		}
		onDisk(t, d, was...)
		appended(t, w, api.Record{Seq: w.Next(), Brick: api.MaxNodes - 1, Body: strings.Repeat("x", most)})
	}
}

// Promise 10.2: what stands on the disk, byte for byte.
func TestAppendBytes(t *testing.T) {
	d := newDisk(t)
	w := opened(t, d, 1)
	appended(t, w, api.Record{Seq: 1, Brick: 0, Body: "a"})
	onDisk(t, d, "log.1", "\x09\x00\x00\x00N\x01\x01N\x00T\x01\x01a\x5f\x01\xd9\x06")
	appended(t, w, api.Record{Seq: 2, Brick: 15, Body: ""})
	onDisk(t, d, "log.1", line(api.Record{Seq: 1, Brick: 0, Body: "a"}), "log.2", framed("N\x01\x02N\x01\x0fT\x00"))
	d = newDisk(t)
	w = opened(t, d, api.MaxFrame)
	all := ""
	for i, body := range []string{"", "\x00\xff", strings.Repeat("x", 255), strings.Repeat("y", 256), strings.Repeat("z", 60000)} {
		r := api.Record{Seq: i + 1, Brick: i * 3, Body: body}
		appended(t, w, r)
		all += line(r)
		onDisk(t, d, "log.1", all)
	}
}

// Promise 10.2: numbers go on without a gap, past 255 and 256 too, and all of it is there once it is opened again.
func TestAppendNumbers(t *testing.T) {
	d := newDisk(t)
	w := opened(t, d, 2000)
	for seq := 1; seq < 700; seq++ {
		if w.First() != 1 || w.Next() != seq {
			t.Fatal(seq, w.First(), w.Next())
		}
		appended(t, w, rec(seq))
	}
	holds(t, w, w.Segments(), recs(1, 700)...)
	seen(t, w).is(t, opened(t, d, 2000))
	seen(t, w).is(t, opened(t, d, 1))
}

// Promise 10.2: a new segment is begun when the last one has most bytes, or more, not when it has one byte less.
func TestAppendSegments(t *testing.T) {
	r := func(seq int) api.Record { return api.Record{Seq: seq, Brick: 1, Body: "abcde"} }
	long := len(line(r(1)))
	for _, x := range []struct{ most, each int }{
		{1, 1}, {long - 1, 1}, {long, 1}, {long + 1, 2}, {2*long - 1, 2}, {2 * long, 2}, {2*long + 1, 3}, {3 * long, 3},
	} {
		d := newDisk(t)
		w := opened(t, d, x.most)
		var segments []int
		var all []api.Record
		for seq := 1; seq < 20; seq++ {
			if (seq-1)%x.each == 0 {
				segments = append(segments, seq)
			}
			all = append(all, r(seq))
			appended(t, w, r(seq))
			holds(t, w, segments, all...)
			again := opened(t, d, x.most)
			holds(t, again, segments, all...)
			if seq%4 == 0 {
				w = again
			}
		}
		for i, n := range segments {
			last := min(n+x.each, 20)
			if s, _ := d.Read(name(n)); s != lines(all[n-1:last-1]...) {
				t.Errorf("%d: %d %q", x.most, i, s)
			}
		}
	}
}

// Promise 10.2: the last segment goes on as far as most is now, not as it was.
func TestAppendAnotherMost(t *testing.T) {
	d := newDisk(t)
	w := opened(t, d, 1)
	appended(t, w, rec(1))
	appended(t, w, rec(2))
	w = opened(t, d, api.MaxFrame)
	appended(t, w, rec(3))
	holds(t, w, []int{1, 2}, recs(1, 4)...)
	w = opened(t, d, 1)
	appended(t, w, rec(4))
	holds(t, w, []int{1, 2, 4}, recs(1, 5)...)
}

// Promise 10.2: a last segment that Open took away leaves the one ahead, with its own bytes, as the last.
func TestAppendBehindRemoved(t *testing.T) {
	one := len(line(rec(5)))
	for _, x := range []struct {
		most     int
		segments []int
	}{{one, []int{5, 6}}, {one + 1, []int{5}}} {
		for _, end := range []string{"", "z"} {
			d := with(t, "log.5", line(rec(5)), "log.6", end)
			w := opened(t, d, x.most)
			appended(t, w, rec(6))
			holds(t, w, x.segments, recs(5, 7)...)
			seen(t, w).is(t, opened(t, d, x.most))
		}
	}
}

// Promise 10.2: ahead of a new segment all is synced, other files too; nothing else is.
func TestAppendSyncs(t *testing.T) {
	d := newDisk(t)
	must(t, d.Append("other", "x"))
	w := opened(t, d, len(line(rec(5)))+1)
	appended(t, w, rec(1))
	must(t, d.Crash(nil))
	onDisk(t, d, "log.1", "", "other", "")

	w = opened(t, d, len(line(rec(1)))+1)
	appended(t, w, rec(1))
	appended(t, w, rec(2))
	must(t, d.Crash(nil))
	onDisk(t, d, "log.1", "", "other", "")

	w = opened(t, d, len(line(rec(1))))
	appended(t, w, rec(1))
	must(t, d.Append("other", "y"))
	appended(t, w, rec(2))
	must(t, d.Append("other", "z"))
	must(t, d.Crash(nil))
	onDisk(t, d, "log.1", line(rec(1)), "log.2", "", "other", "y")
	holds(t, opened(t, d, 1), []int{1}, rec(1))
}

// Promise 10.2: how many calls of the disk a record takes: one; in a new segment with another one ahead, two, the sync first.
func TestAppendGoesDown(t *testing.T) {
	one := line(rec(1))
	for _, x := range []struct {
		most, fuse int
		files      []string
		want       api.Errno
	}{
		{1, 0, nil, api.ErrDown},
		{1, 1, nil, api.OK},
		{1, 0, []string{"log.1", ""}, api.ErrDown},
		{1, 1, []string{"log.1", ""}, api.OK},
		{99, 0, []string{"log.1", one}, api.ErrDown},
		{99, 1, []string{"log.1", one}, api.OK},
		{1, 0, []string{"log.1", one}, api.ErrDown},
		{1, 1, []string{"log.1", one}, api.ErrDown},
		{1, 2, []string{"log.1", one}, api.OK},
	} {
		d := with(t, x.files...)
		w := opened(t, d, x.most)
		must(t, d.Append("other", "x"))
		must(t, d.Fuse(x.fuse))
		was := contents(d)
		n, e := w.Append(3, "abc")
		if e != x.want || n != 0 && e != api.OK || n == 0 && e == api.OK {
			t.Error(x.most, x.fuse, x.files, n, e)
		}
		if e != api.OK {
			onDisk(t, d, was...)
		} else {
			told(t, d.Sync(), api.ErrDown)
		}
		must(t, d.Crash(nil))
		s, _ := d.Read("other")
		if synced := x.most == 1 && x.fuse > 0 && len(x.files) > 0 && x.files[1] != ""; (s == "x") != synced {
			t.Error(x.most, x.fuse, x.files, s)
		}
	}
}

// Promise 10.2: a refusal of the log's own takes nothing of the disk's fuse, and is told of one that is down.
func TestAppendRefusesWithoutDisk(t *testing.T) {
	d := with(t, "log.1", line(rec(1)))
	w := opened(t, d, 1)
	must(t, d.Fuse(2))
	notAppended(t, w, -1, "", api.ErrRange)
	notAppended(t, w, 0, strings.Repeat("x", 60001), api.ErrLong)
	appended(t, w, rec(2))
	must(t, d.Fuse(0))
	told(t, w.Sync(), api.ErrDown)
	notAppended(t, w, -1, "", api.ErrRange)
	notAppended(t, w, 0, strings.Repeat("x", 60001), api.ErrLong)
	notAppended(t, w, 0, "", api.ErrDown)
}

// Promise 10.2 and rule R5: a log whose disk is full is as it was, and goes on when there is room, without a gap.
func TestAppendFull(t *testing.T) {
	for _, most := range []int{1, 40, api.MaxFrame} {
		d := roomy(t, 200)
		put(t, d, "other", strings.Repeat("x", 100))
		w := opened(t, d, most)
		for w.Next() < 3 {
			appended(t, w, rec(w.Next()))
		}
		for range 3 {
			notAppended(t, w, 1, strings.Repeat("x", 60), api.ErrSpace)
			seen(t, w).is(t, opened(t, d, most))
		}
		for range 2 {
			appended(t, w, rec(w.Next()))
		}
		notAppended(t, w, 1, strings.Repeat("x", 60), api.ErrSpace)
		must(t, d.Remove("other"))
		appended(t, w, api.Record{Seq: 5, Brick: 1, Body: strings.Repeat("x", 60)})
		seen(t, w).is(t, opened(t, d, most))
	}
}

// Promise 10.2: just as much room as a record needs, and one byte less.
func TestAppendRoom(t *testing.T) {
	long := len(lines(recs(1, 3)...))
	for _, most := range []int{1, 99} {
		w := opened(t, roomy(t, long), most)
		appended(t, w, rec(1))
		appended(t, w, rec(2))
		w = opened(t, roomy(t, long-1), most)
		appended(t, w, rec(1))
		notAppended(t, w, rec(2).Brick, rec(2).Body, api.ErrSpace)
	}
	notAppended(t, opened(t, roomy(t, 0), 1), 0, "", api.ErrSpace)
}

// Promise 10.2: as many segments as a disk can have files; forgotten ones make room for others.
func TestAppendMostFiles(t *testing.T) {
	d := newDisk(t)
	w := opened(t, d, 1)
	for seq := 1; seq <= api.MaxFiles; seq++ {
		appended(t, w, rec(seq))
	}
	for range 2 {
		notAppended(t, w, 0, "", api.ErrSpace)
	}
	if n, e := w.Forget(3); n != 2 || e != api.OK {
		t.Fatal(n, e)
	}
	appended(t, w, rec(api.MaxFiles+1))
	appended(t, w, rec(api.MaxFiles+2))
	notAppended(t, w, 0, "", api.ErrSpace)
	holds(t, w, w.Segments(), recs(3, api.MaxFiles+3)...)
	seen(t, w).is(t, opened(t, d, 1))
}

// Promise 10.2: behind a refusal for want of room a log that had no segment has none.
func TestAppendFullAtFirst(t *testing.T) {
	d := newDisk(t)
	for i := range api.MaxFiles {
		put(t, d, "f"+strconv.Itoa(i), "")
	}
	w := opened(t, d, 1)
	notAppended(t, w, 0, "", api.ErrSpace)
	holds(t, w, nil)
	must(t, d.Remove("f0"))
	appended(t, w, rec(1))
}

// Promise 10.2: the record of the number api.MaxIndex is the last one.
func TestAppendMostRecords(t *testing.T) {
	for _, files := range [][]string{
		{name(api.MaxIndex - 1), ""},
		{name(api.MaxIndex - 2), line(rec(api.MaxIndex - 2))},
	} {
		for _, most := range []int{1, api.MaxFrame} {
			d := with(t, files...)
			w := opened(t, d, most)
			appended(t, w, rec(api.MaxIndex-1))
			appended(t, w, rec(api.MaxIndex))
			for range 2 {
				notAppended(t, w, 0, "", api.ErrLong)
				notAppended(t, w, api.MaxNodes, "", api.ErrRange)
				seen(t, w).is(t, opened(t, d, most))
				w = opened(t, d, most)
			}
			if w.Next() != api.MaxIndex+1 {
				t.Error(w.Next())
			}
		}
	}
}

// Promise 10.2: api.MaxIndex records one by one, with those forgotten that there is no room for.
func TestAppendAllRecords(t *testing.T) {
	d := newDisk(t)
	w := opened(t, d, api.MaxFrame)
	for seq := 1; seq <= api.MaxIndex; seq++ {
		n, e := w.Append(seq%api.MaxNodes, "")
		if e == api.ErrSpace {
			if many, e := w.Forget(seq); many == 0 || e != api.OK {
				t.Fatal(seq, many, e)
			}
			n, e = w.Append(seq%api.MaxNodes, "")
		}
		if n != seq || e != api.OK {
			t.Fatal(seq, n, e)
		}
	}
	notAppended(t, w, 0, "", api.ErrLong)
	if w.Next() != api.MaxIndex+1 {
		t.Error(w.Next())
	}
	if l, e := w.Read(api.MaxIndex, 9); e != api.OK || !slices.Equal(l, []api.Record{{Seq: api.MaxIndex, Brick: 0}}) {
		t.Error(l, e)
	}
}

// Promise 10.2: Sync makes all files safe, and takes one of the fuse.
func TestSync(t *testing.T) {
	d := newDisk(t)
	w := opened(t, d, 99)
	appended(t, w, rec(1))
	must(t, d.Append("other", "x"))
	must(t, d.Fuse(1))
	told(t, w.Sync(), api.OK)
	told(t, w.Sync(), api.ErrDown)
	must(t, d.Crash(nil))
	onDisk(t, d, "log.1", line(rec(1)), "other", "x")
}

// Rule R7: logs of unlike disks have nothing to do with each other.
func TestLogsApart(t *testing.T) {
	var logs []*wal.Wal
	for range 3 {
		d, _ := disk.New(api.MaxBytes)
		logs = append(logs, opened(t, d, 1))
	}
	appended(t, logs[1], rec(1))
	appended(t, logs[2], rec(1))
	appended(t, logs[2], rec(2))
	holds(t, logs[0], nil)
	holds(t, logs[1], []int{1}, rec(1))
	holds(t, logs[2], []int{1, 2}, recs(1, 3)...)
}
