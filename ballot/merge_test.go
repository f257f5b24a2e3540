package ballot_test

import (
	"math"
	"slices"
	"strings"
	"testing"

	"skylark/api"
	"skylark/disk"
)

// Promise 15.3: entries of the ballot's term, numbered from 1 on, each in a frame of its own.
func TestAppend(t *testing.T) {
	d := newDisk(t, 20000)
	b := opened(t, d, 3)
	must(t, b.Turn(2))
	want, bytes := of(2, -1), stand(2, -1)
	for i, data := range []string{"a", "", "a", "\x00\xff", long(4096), "b"} {
		if i == 3 {
			must(t, b.Turn(5))
			want.term = 5
			bytes += stand(5, -1)
		}
		appends(t, b, data, i+1, api.OK)
		want.entries = append(want.entries, entry(want.term, data))
		bytes += put(want.term, data)
		want.is(t, b)
		onDisk(t, d, "ballot", bytes)
		want.is(t, opened(t, d, 3))
	}
}

// Promise 15.3: in the term 0 no entry may be; nor may Data of more than 4096 bytes, which is told behind that.
func TestAppendRefuses(t *testing.T) {
	d := newDisk(t, 20000)
	b := opened(t, d, 3)
	for _, data := range []string{"", "a", long(4097)} {
		appends(t, b, data, 0, api.ErrRange)
	}
	onDisk(t, d)
	must(t, b.Turn(1))
	must(t, d.Fuse(0))
	for _, size := range []int{4097, 5000, api.MaxBytes + 1} {
		appends(t, b, long(size), 0, api.ErrLong)
	}
	of(1, -1).is(t, b)
	onDisk(t, d, "ballot", stand(1, -1))
}

// three is a disk with a ballot of the term 6 whose log has the terms 1, 3, 3.
func three(t *testing.T) (*disk.Disk, string, view) {
	t.Helper()
	want := of(6, 1, entry(1, "a"), entry(3, "b"), entry(3, "c"))
	bytes := stand(6, 1) + puts(want.entries...)
	return with(t, bytes), bytes, want
}

// Promise 15.3: what Merge takes away and puts in, in the log and in the file; entries that are there already stand as they stood.
func TestMerge(t *testing.T) {
	a, b, c := entry(1, "a"), entry(3, "b"), entry(3, "c")
	for i, x := range []struct {
		prev, term int
		entries    []api.Entry
		last       int
		more       string
		log        []api.Entry
	}{
		{0, 0, nil, 0, "", []api.Entry{a, b, c}},
		{1, 1, []api.Entry{}, 1, "", []api.Entry{a, b, c}},
		{3, 3, nil, 3, "", []api.Entry{a, b, c}},
		{0, 0, []api.Entry{a}, 1, "", []api.Entry{a, b, c}},
		{0, 0, []api.Entry{a, b, c}, 3, "", []api.Entry{a, b, c}},
		{1, 1, []api.Entry{entry(3, "other")}, 2, "", []api.Entry{a, b, c}},
		{3, 3, []api.Entry{entry(3, "d")}, 4, put(3, "d"), []api.Entry{a, b, c, entry(3, "d")}},
		{3, 3, []api.Entry{entry(4, "d"), entry(6, "e")}, 5, put(4, "d") + put(6, "e"), []api.Entry{a, b, c, entry(4, "d"), entry(6, "e")}},
		{1, 1, []api.Entry{b, c, entry(5, "")}, 4, put(5, ""), []api.Entry{a, b, c, entry(5, "")}},
		{0, 0, []api.Entry{a, b, entry(3, "other"), entry(3, "d")}, 4, put(3, "d"), []api.Entry{a, b, c, entry(3, "d")}},
		{2, 3, []api.Entry{entry(4, "x")}, 3, gone(3) + put(4, "x"), []api.Entry{a, b, entry(4, "x")}},
		{1, 1, []api.Entry{entry(2, "x")}, 2, gone(2) + put(2, "x"), []api.Entry{a, entry(2, "x")}},
		{0, 0, []api.Entry{a, b, entry(4, "x"), entry(4, "y")}, 4, gone(3) + put(4, "x") + put(4, "y"), []api.Entry{a, b, entry(4, "x"), entry(4, "y")}},
		{0, 0, []api.Entry{entry(2, "x")}, 1, gone(1) + put(2, "x"), []api.Entry{entry(2, "x")}},
		{0, 0, []api.Entry{entry(6, "x"), entry(6, long(4096))}, 2, gone(1) + put(6, "x") + put(6, long(4096)), []api.Entry{entry(6, "x"), entry(6, long(4096))}},
		{0, 0, []api.Entry{a, entry(2, "x"), entry(3, "y"), entry(3, "z")}, 4, gone(2) + put(2, "x") + put(3, "y") + put(3, "z"), []api.Entry{a, entry(2, "x"), entry(3, "y"), entry(3, "z")}},
	} {
		d, bytes, want := three(t)
		r := opened(t, d, 3)
		merges(t, r, x.prev, x.term, x.entries, x.last, api.OK)
		want.entries = x.log
		want.is(t, r)
		onDisk(t, d, "ballot", bytes+x.more)
		want.is(t, opened(t, d, 3))
		appends(t, r, "more", len(x.log)+1, api.OK)
		want.entries = append(want.entries, entry(6, "more"))
		want.is(t, r)
		want.is(t, opened(t, d, 3))
		if t.Failed() {
			t.Fatal(i)
		}
	}
}

// Promise 15.3: what chapter 14 refuses, ahead of an entry of a term above the ballot's; nothing is changed, and the disk is asked for nothing.
func TestMergeRefuses(t *testing.T) {
	d, bytes, want := three(t)
	b := opened(t, d, 3)
	must(t, d.Fuse(0))
	above := entry(7, "x")
	for _, x := range []struct {
		prev, term int
		entries    []api.Entry
		want       api.Errno
	}{
		{-1, 0, []api.Entry{above}, api.ErrIndex}, {4, 3, nil, api.ErrIndex}, {4, 3, []api.Entry{above}, api.ErrIndex}, {math.MinInt, 0, nil, api.ErrIndex}, {math.MaxInt, 3, nil, api.ErrIndex},
		{3, 1, []api.Entry{above}, api.ErrShape}, {0, 1, nil, api.ErrShape}, {1, 0, []api.Entry{{}}, api.ErrShape}, {2, -3, nil, api.ErrShape},
		{3, 3, []api.Entry{above, {}}, api.ErrRange}, {3, 3, []api.Entry{above, entry(api.MaxTerm+1, "")}, api.ErrRange}, {3, 3, []api.Entry{entry(-1, "")}, api.ErrRange},
		{3, 3, []api.Entry{entry(2, "")}, api.ErrStale}, {3, 3, []api.Entry{entry(5, ""), entry(4, "")}, api.ErrStale},
		{3, 3, []api.Entry{entry(7, long(4097))}, api.ErrLong}, {2, 3, []api.Entry{entry(4, long(4097)), above}, api.ErrLong},
		{3, 3, []api.Entry{above}, api.ErrStale}, {3, 3, []api.Entry{entry(6, ""), above}, api.ErrStale}, {2, 3, []api.Entry{above}, api.ErrStale},
		{1, 1, []api.Entry{entry(2, "y"), above, above}, api.ErrStale}, {0, 0, []api.Entry{above}, api.ErrStale}, {0, 0, []api.Entry{entry(1, "y"), entry(3, "z"), above}, api.ErrStale},
		{1, 1, []api.Entry{entry(api.MaxTerm, long(4096))}, api.ErrStale},
	} {
		merges(t, b, x.prev, x.term, x.entries, 0, x.want)
		want.is(t, b)
		onDisk(t, d, "ballot", bytes)
	}
	must(t, d.Fuse(2))
	merges(t, b, 3, 3, []api.Entry{entry(6, "x")}, 4, api.OK)
}

// Promise 15.3: in the term 0 entries may not be, but none may be merged.
func TestMergeTermZero(t *testing.T) {
	d := newDisk(t, 100)
	b := opened(t, d, 3)
	merges(t, b, 0, 0, nil, 0, api.OK)
	merges(t, b, 0, 0, []api.Entry{entry(1, "a")}, 0, api.ErrStale)
	merges(t, b, 0, 0, []api.Entry{entry(0, "a")}, 0, api.ErrRange)
	of(0, -1).is(t, b)
	onDisk(t, d)
}

// Promise 15.3: one piece is appended, and then all is synced; if nothing is new, the disk is asked for nothing.
func TestMergeSyncs(t *testing.T) {
	for _, entries := range [][]api.Entry{{entry(6, "d")}, {entry(4, "d"), entry(5, "e"), entry(6, "f")}} {
		for prev, term := range []int{0, 1, 3, 3} {
			d, _, _ := three(t)
			b := opened(t, d, 3)
			must(t, d.Append("other", "x"))
			must(t, d.Fuse(2))
			merges(t, b, prev, term, entries, prev+len(entries), api.OK)
			told(t, d.Sync(), api.ErrDown)
			must(t, d.Crash([]int{-1, -1}))
			seen(t, b).is(t, opened(t, d, 3))
			if s, _ := d.Read("other"); s != "x" {
				t.Error(s)
			}
		}
	}
	d, bytes, want := three(t)
	b := opened(t, d, 3)
	must(t, d.Append("other", "x"))
	must(t, d.Fuse(0))
	merges(t, b, 0, 0, nil, 0, api.OK)
	merges(t, b, 0, 0, want.entries, 3, api.OK)
	merges(t, b, 1, 1, want.entries[1:2], 2, api.OK)
	must(t, d.Fuse(1))
	told(t, d.Append("other", ""), api.OK)
	must(t, d.Crash([]int{-1, -1}))
	onDisk(t, d, "ballot", bytes, "other", "")
}

// Promise 15.3: Append syncs, too.
func TestAppendSyncs(t *testing.T) {
	d, bytes, _ := three(t)
	b := opened(t, d, 3)
	must(t, d.Append("other", "x"))
	must(t, d.Fuse(2))
	appends(t, b, "d", 4, api.OK)
	told(t, d.Sync(), api.ErrDown)
	must(t, d.Crash([]int{-1, -1}))
	onDisk(t, d, "ballot", bytes+put(6, "d"), "other", "x")
}

// Promise 15.3 and rule R5: what the disk refuses is told, and the ballot says what it said, with each entry as it was.
func TestMergeRefusedByDisk(t *testing.T) {
	pieces := []struct {
		prev, term int
		entries    []api.Entry
	}{
		{3, 3, []api.Entry{entry(6, "d")}},
		{2, 3, []api.Entry{entry(4, "x"), entry(4, "y")}},
		{0, 0, []api.Entry{entry(1, "other"), entry(2, "x")}},
		{0, 0, []api.Entry{entry(2, "x")}},
	}
	for _, x := range pieces {
		for fuse := range 2 {
			d, bytes, want := three(t)
			b := opened(t, d, 3)
			must(t, d.Fuse(fuse))
			merges(t, b, x.prev, x.term, x.entries, 0, api.ErrDown)
			want.is(t, b)
			must(t, d.Crash([]int{-1}))
			onDisk(t, d, "ballot", bytes)
		}
		d, bytes, want := three(t)
		b := opened(t, d, 3)
		must(t, d.Append("other", strings.Repeat("x", api.MaxBytes-d.Used()-10)))
		merges(t, b, x.prev, x.term, x.entries, 0, api.ErrSpace)
		appends(t, b, "", 0, api.ErrSpace)
		want.is(t, b)
		if file(t, d) != bytes {
			t.Error(file(t, d))
		}
		must(t, d.Remove("other"))
		want.is(t, opened(t, d, 3))
	}
}

// Promise 15.3: a piece has all the room there is, or none of it is written; one that no disk has room for is told ahead of a disk that is down.
func TestMergeRoom(t *testing.T) {
	entries := slices.Repeat([]api.Entry{entry(1, long(4096))}, 63)
	size := len(stand(1, -1) + puts(entries...))
	for _, x := range []struct {
		room int
		want api.Errno
	}{{size, api.OK}, {size + 1, api.OK}, {size - 1, api.ErrSpace}} {
		d := newDisk(t, x.room)
		b := opened(t, d, 3)
		must(t, b.Turn(1))
		if x.want == api.OK {
			merges(t, b, 0, 0, entries, 63, api.OK)
			of(1, -1, entries...).is(t, opened(t, d, 3))
			continue
		}
		merges(t, b, 0, 0, entries, 0, x.want)
		of(1, -1).is(t, b)
		onDisk(t, d, "ballot", stand(1, -1))
	}
	d := with(t, stand(1, -1))
	b := opened(t, d, 3)
	must(t, d.Fuse(0))
	merges(t, b, 0, 0, slices.Repeat(entries, 100), 0, api.ErrSpace)
	merges(t, b, 0, 0, slices.Repeat([]api.Entry{entry(1, "")}, api.MaxIndex), 0, api.ErrSpace)
	merges(t, b, 0, 0, slices.Repeat([]api.Entry{entry(1, "")}, api.MaxIndex+1), 0, api.ErrLong)
	of(1, -1).is(t, b)
	merges(t, b, 0, 0, entries[:1], 0, api.ErrDown)
}

// Promise 15.1: Log tells a log of its own: neither what is done to it, nor to the ballot, is seen in the other.
func TestLogIsItsOwn(t *testing.T) {
	d, _, want := three(t)
	b := opened(t, d, 3)
	one, other := b.Log(), b.Log()
	if n, e := one.Append(entry(9, "x")); n != 4 || e != api.OK {
		t.Error(n, e)
	}
	must(t, one.Compact(3))
	if _, _, e := other.Merge(0, 0, []api.Entry{entry(8, "y")}); e != api.OK {
		t.Error(e)
	}
	want.is(t, b)
	kept := b.Log()
	merges(t, b, 0, 0, []api.Entry{entry(2, "z")}, 1, api.OK)
	if l, e := kept.Slice(1, 9); e != api.OK || !slices.Equal(l, want.entries) {
		t.Error(l, e)
	}
	of(6, 1, entry(2, "z")).is(t, b)
}

// Rule R4: entries that are handed in are neither changed, nor kept, nor read behind their length.
func TestMergeLeavesEntries(t *testing.T) {
	d, _, _ := three(t)
	b := opened(t, d, 3)
	room := []api.Entry{entry(4, "x"), entry(5, "y"), entry(99, "z")}
	given := room[:2]
	merges(t, b, 2, 3, given, 4, api.OK)
	if !slices.Equal(room, []api.Entry{entry(4, "x"), entry(5, "y"), entry(99, "z")}) {
		t.Error(room)
	}
	given[0].Data, given[1].Term = "changed", 6
	of(6, 1, entry(1, "a"), entry(3, "b"), entry(4, "x"), entry(5, "y")).is(t, b)
}

// Promise 15.3: as many entries as a disk has room for; then it is full.
func TestAppendTillFull(t *testing.T) {
	d := newDisk(t, api.MaxBytes)
	b := opened(t, d, 3)
	must(t, b.Turn(1))
	many := (api.MaxBytes - len(stand(1, -1))) / len(put(1, ""))
	for i := range many {
		if n, e := b.Append(""); n != i+1 || e != api.OK {
			t.Fatal(i, n, e)
		}
	}
	appends(t, b, "", 0, api.ErrSpace)
	want := of(1, -1, slices.Repeat([]api.Entry{entry(1, "")}, many)...)
	want.is(t, b)
	want.is(t, opened(t, d, 3))
}
