package wal_test

import (
	"math"
	"slices"
	"strings"
	"testing"

	"skylark/api"
	"skylark/wal"
)

// sample is a log of the records 5 to 13, in the segments 5, 8, 9 and 12.
func sample(t *testing.T) *wal.Wal {
	t.Helper()
	d := with(t, "log.5", lines(recs(5, 8)...), "log.8", lines(recs(8, 9)...), "log.9", lines(recs(9, 12)...), "log.12", lines(recs(12, 14)...))
	return opened(t, d, 1)
}

// Promise 10.3: from each record on as many as are asked for, or as there are.
func TestRead(t *testing.T) {
	w := sample(t)
	for from := 5; from <= 14; from++ {
		for _, most := range []int{0, 1, 2, 3, 4, 5, 6, 7, 8, 9, 10, 100, math.MaxInt} {
			l, e := w.Read(from, most)
			if want := recs(from, from+min(most, 14-from)); e != api.OK || !slices.Equal(l, want) {
				t.Errorf("%d %d: %v %v", from, most, l, e)
			}
		}
	}
}

// Promise 10.3: numbers outside of First to Next, and a most below 0.
func TestReadRefuses(t *testing.T) {
	w := sample(t)
	for _, x := range [][2]int{
		{4, 1}, {15, 1}, {0, 1}, {-1, 1}, {math.MinInt, 1}, {math.MaxInt, 1}, {4, 0}, {15, 0}, {4, -1}, {15, math.MaxInt},
		{5, -1}, {9, -1}, {14, -1}, {5, math.MinInt},
	} {
		if l, e := w.Read(x[0], x[1]); len(l) != 0 || e != api.ErrRange {
			t.Error(x, l, e)
		}
	}
}

// Promise 10.3: of a log without records its Next may be read from, and nothing else.
func TestReadNothing(t *testing.T) {
	for _, x := range []struct {
		files []string
		next  int
	}{{nil, 1}, {[]string{"log.1", ""}, 1}, {[]string{"log.7", ""}, 7}, {[]string{name(api.MaxIndex), ""}, api.MaxIndex}} {
		w := opened(t, with(t, x.files...), 1)
		for _, from := range []int{x.next - 1, x.next, x.next + 1} {
			l, e := w.Read(from, 5)
			if len(l) != 0 || (e == api.OK) != (from == x.next) || e != api.OK && e != api.ErrRange {
				t.Error(x.next, from, l, e)
			}
			many, e := w.Forget(from)
			if many != 0 || (e == api.OK) != (from == x.next) || e != api.OK && e != api.ErrRange {
				t.Error(x.next, from, many, e)
			}
		}
	}
}

// Promise 10.3: what was appended is read at once, synced or not, of a disk that is full too.
func TestReadAppended(t *testing.T) {
	d := roomy(t, 100)
	w := opened(t, d, 40)
	for w.Next() < 5 {
		appended(t, w, rec(w.Next()))
		if l, e := w.Read(1, 9); e != api.OK || !slices.Equal(l, recs(1, w.Next())) {
			t.Error(l, e)
		}
	}
	notAppended(t, w, 0, strings.Repeat("x", 99), api.ErrSpace)
	if l, e := w.Read(2, 9); e != api.OK || !slices.Equal(l, recs(2, w.Next())) {
		t.Error(l, e)
	}
}

// Promise 10.3 and rule R5: reading changes nothing on the disk, and takes nothing of its fuse.
func TestReadLeavesDisk(t *testing.T) {
	d := with(t, "log.1", lines(recs(1, 4)...))
	w := opened(t, d, 1)
	must(t, d.Append("other", "x"))
	must(t, d.Fuse(0))
	seen(t, w)
	w.Read(99, 1)
	must(t, d.Fuse(1))
	told(t, d.Append("other", "y"), api.OK)
	onDisk(t, d, "log.1", lines(recs(1, 4)...), "other", "xy")
}

// Rule R4: answers share no memory, neither with each other nor with what the log keeps, spare room too.
func TestAnswersApart(t *testing.T) {
	w := sample(t)
	was := seen(t, w)
	one, other := seen(t, w), seen(t, w)
	clear(one.records[:cap(one.records)])
	clear(one.segments[:cap(one.segments)])
	if !slices.Equal(other.records, was.records) || !slices.Equal(other.segments, was.segments) {
		t.Error(other)
	}
	was.is(t, w)
	segments := w.Segments()
	appended(t, w, rec(14))
	if n, e := w.Forget(9); n != 2 || e != api.OK {
		t.Fatal(n, e)
	}
	if !slices.Equal(segments, was.segments) {
		t.Error(segments)
	}
	holds(t, w, []int{9, 12, 14}, recs(9, 15)...)
}

// Promise 10.3: of each number on which segments are forgotten: those whose records are all below it, but never the last one.
func TestForget(t *testing.T) {
	for _, x := range []struct {
		seq, many int
		left      []int
	}{
		{5, 0, []int{5, 8, 9, 12}},
		{6, 0, []int{5, 8, 9, 12}},
		{7, 0, []int{5, 8, 9, 12}},
		{8, 1, []int{8, 9, 12}},
		{9, 2, []int{9, 12}},
		{10, 2, []int{9, 12}},
		{11, 2, []int{9, 12}},
		{12, 3, []int{12}},
		{13, 3, []int{12}},
		{14, 3, []int{12}},
	} {
		d := with(t, "log.5", lines(recs(5, 8)...), "log.8", lines(recs(8, 9)...), "log.9", lines(recs(9, 12)...), "log.12", lines(recs(12, 14)...), "log.1x", "x")
		w := opened(t, d, 1)
		if n, e := w.Forget(x.seq); n != x.many || e != api.OK {
			t.Error(x.seq, n, e)
		}
		holds(t, w, x.left, recs(x.left[0], 14)...)
		if len(d.Names()) != 1+len(x.left) {
			t.Error(x.seq, d.Names())
		}
		holds(t, opened(t, d, 1), x.left, recs(x.left[0], 14)...)
		if n, e := w.Forget(14); n != 3-x.many || e != api.OK {
			t.Error(x.seq, n, e)
		}
		if n, e := w.Forget(14); n != 0 || e != api.OK {
			t.Error(x.seq, n, e)
		}
		appended(t, w, rec(14))
		holds(t, w, []int{12, 14}, recs(12, 15)...)
		holds(t, opened(t, d, 1), []int{12, 14}, recs(12, 15)...)
	}
}

// Promise 10.3: numbers outside of First to Next, as First is now.
func TestForgetRefuses(t *testing.T) {
	w := sample(t)
	for range 2 {
		was := seen(t, w)
		for _, seq := range []int{w.First() - 1, w.Next() + 1, 0, -1, math.MinInt, math.MaxInt} {
			if n, e := w.Forget(seq); n != 0 || e != api.ErrRange {
				t.Error(seq, n, e)
			}
		}
		was.is(t, w)
		if n, e := w.Forget(9); e != api.OK {
			t.Error(n, e)
		}
	}
	if _, e := w.Read(8, 1); e != api.ErrRange {
		t.Error(e)
	}
}

// Promises 10.3 and 10.4: a disk that goes down on the way has lost the first segments, and no other.
func TestForgetGoesDown(t *testing.T) {
	segments := []int{5, 8, 9, 12}
	for fuse := range 4 {
		d := with(t, "log.5", lines(recs(5, 8)...), "log.8", lines(recs(8, 9)...), "log.9", lines(recs(9, 12)...), "log.12", lines(recs(12, 14)...))
		w := opened(t, d, 1)
		must(t, d.Fuse(fuse))
		if n, e := w.Forget(14); fuse < 3 && (n != 0 || e != api.ErrDown) || fuse == 3 && (n != 3 || e != api.OK) {
			t.Error(fuse, n, e)
		}
		must(t, d.Crash(nil))
		left := segments[fuse:]
		holds(t, opened(t, d, 1), left, recs(left[0], 14)...)
	}
}

// Promise 10.3: nothing to forget takes nothing of the fuse.
func TestForgetNothing(t *testing.T) {
	d := with(t, "log.5", lines(recs(5, 8)...), "log.8", line(rec(8)))
	w := opened(t, d, 1)
	must(t, d.Fuse(0))
	for _, seq := range []int{5, 6, 7} {
		if n, e := w.Forget(seq); n != 0 || e != api.OK {
			t.Error(seq, n, e)
		}
	}
	told(t, d.Sync(), api.ErrDown)
}

// The chapter's example.
func TestExample(t *testing.T) {
	w := opened(t, newDisk(t), 1)
	appended(t, w, api.Record{Seq: 1, Brick: 0, Body: "a"})
	appended(t, w, api.Record{Seq: 2, Brick: 2, Body: "b"})
	holds(t, w, []int{1, 2}, api.Record{Seq: 1, Brick: 0, Body: "a"}, api.Record{Seq: 2, Brick: 2, Body: "b"})
	if n, e := w.Forget(2); n != 1 || e != api.OK || w.First() != 2 {
		t.Error(n, e, w.First())
	}
}

// Promise P1: a log whose files somebody else has changed ends each call, and tells no record that it did not have.
func TestChangedBehindItsBack(t *testing.T) {
	for i, change := range []func(t *testing.T) *wal.Wal{
		func(t *testing.T) *wal.Wal {
			d := with(t, "log.5", lines(recs(5, 8)...), "log.8", line(rec(8)))
			w := opened(t, d, 1)
			must(t, d.Remove("log.5"))
			return w
		},
		func(t *testing.T) *wal.Wal {
			d := with(t, "log.5", lines(recs(5, 8)...), "log.8", line(rec(8)))
			w := opened(t, d, 1)
			must(t, d.Cut("log.5", 30))
			return w
		},
		func(t *testing.T) *wal.Wal {
			d := with(t, "log.5", lines(recs(5, 8)...), "log.8", line(rec(8)), "x", lines(recs(6, 9)...))
			w := opened(t, d, 1)
			must(t, d.Rename("x", "log.5"))
			return w
		},
	} {
		w := change(t)
		if l, e := w.Read(5, 9); len(l) != 0 || e != api.ErrCorrupt {
			t.Error(i, l, e)
		}
		if l, e := w.Read(8, 9); e != api.OK || !slices.Equal(l, recs(8, 9)) {
			t.Error(i, l, e)
		}
		w.Forget(9)
		w.Append(0, "a")
		w.Sync()
	}
}
