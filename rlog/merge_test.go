package rlog_test

import (
	"slices"
	"testing"

	"skylark/api"
	"skylark/rlog"
)

// entry is one of a term with a text.
func entry(term int, data string) api.Entry {
	return api.Entry{Term: term, Data: data}
}

// The chapter's example.
func TestExample(t *testing.T) {
	l := holding(t, of(1, 1, 2)...)
	merges(t, l, 1, 1, []api.Entry{{Term: 1}, {Term: 3}}, 3, 1, api.OK)
	for i, want := range []int{1, 1, 3} {
		if x, e := l.Term(i + 1); x != want || e != api.OK {
			t.Error(i, x, e)
		}
	}
	agrees(t, l, []int{3, 3, 1}, 3, 0, 3, api.OK)
	agrees(t, l, []int{3, 3, 1}, 1, 0, 2, api.OK)
	agrees(t, l, []int{3, 3, 1}, 2, 0, 0, api.OK)
}

// Promise 14.2: entries behind the last one are put there, into a log with entries, without, and behind a base.
func TestMergeAtEnd(t *testing.T) {
	l := rlog.New()
	merges(t, l, 0, 0, of(1, 1, 2), 3, 0, api.OK)
	shows(t, l, 0, 0, of(1, 1, 2)...)
	merges(t, l, 3, 2, []api.Entry{entry(2, "x"), entry(9, "y")}, 5, 0, api.OK)
	shows(t, l, 0, 0, append(of(1, 1, 2), entry(2, "x"), entry(9, "y"))...)
	told(t, l.Compact(5), api.OK)
	merges(t, l, 5, 9, []api.Entry{entry(9, "z")}, 6, 0, api.OK)
	shows(t, l, 5, 9, entry(9, "z"))
}

// Promise 14.2: entries of the log with the same term at the same number stay, with the Data that they have.
func TestMergeStays(t *testing.T) {
	own := of(1, 1, 2, 2)
	other := []api.Entry{entry(1, "p"), entry(1, "q"), entry(2, "r"), entry(2, "s"), entry(2, "t"), entry(3, "u")}
	for prev := range 5 {
		for end := prev; end <= len(other); end++ {
			l := holding(t, own...)
			term, e := l.Term(prev)
			told(t, e, api.OK)
			merges(t, l, prev, term, other[prev:end], end, 0, api.OK)
			shows(t, l, 0, 0, slices.Concat(own, other[4:max(4, end)])...)
		}
	}
}

// Promise 14.2: at the first entry of another term it and all behind it are taken away, and those that are told stand there; how many were taken away is told.
func TestMergeCuts(t *testing.T) {
	own := of(1, 1, 2, 2, 2)
	for _, x := range []struct {
		prev, term int
		terms      []int
		kept, cut  int // how many of own stay, and how many do not
	}{
		{0, 0, []int{2}, 0, 5}, {0, 0, []int{2, 2, 2, 2, 2, 2, 2}, 0, 5}, {0, 0, []int{1, 3}, 1, 4}, {0, 0, []int{1, 1, 1}, 2, 3},
		{1, 1, []int{2}, 1, 4}, {1, 1, []int{1, 2, 3}, 3, 2}, {1, 1, []int{1, 2, 2, 2, 3}, 5, 0}, {2, 1, []int{1, 2, 2}, 2, 3},
		{3, 2, []int{2, 3, 3, 4}, 4, 1}, {4, 2, []int{3}, 4, 1}, {4, 2, []int{api.MaxTerm, api.MaxTerm}, 4, 1}, {3, 2, []int{9}, 3, 2},
	} {
		l := holding(t, own...)
		var told []api.Entry
		for _, term := range x.terms {
			told = append(told, entry(term, "told"))
		}
		merges(t, l, x.prev, x.term, told, x.prev+len(told), x.cut, api.OK)
		shows(t, l, 0, 0, slices.Concat(own[:x.kept], told[x.kept-x.prev:])...)
	}
}

// Promise 14.2: the same behind a base, at which prev may stand.
func TestMergeBehindBase(t *testing.T) {
	for base := range 4 {
		l := based(t, base, 1, 1, 2, 2)
		term := []int{0, 1, 1, 2}[base]
		merges(t, l, base, term, nil, base, 0, api.OK)
		shows(t, l, base, term, of(1, 1, 2, 2)[base:]...)
		merges(t, l, base-1, 1, nil, 0, 0, api.ErrIndex)
		merges(t, l, base, term, []api.Entry{entry(7, "x")}, base+1, 4-base, api.OK)
		shows(t, l, base, term, entry(7, "x"))
	}
}

// Promise 14.2: without entries nothing is taken away, wherever prev is, and prev is told; a list of none may be nil or empty.
func TestMergeNone(t *testing.T) {
	l := holding(t, of(1, 1, 2)...)
	for prev, term := range []int{0, 1, 1, 2} {
		merges(t, l, prev, term, nil, prev, 0, api.OK)
		merges(t, l, prev, term, []api.Entry{}, prev, 0, api.OK)
		shows(t, l, 0, 0, of(1, 1, 2)...)
	}
}

// Promise 14.2: a number that the log has not is told ahead of all else.
func TestMergeIndex(t *testing.T) {
	for base := range 4 {
		l := based(t, base, 1, 1, 2)
		for _, prev := range append(far(), base-1, 4, 5) {
			for _, term := range []int{0, 1, 2, -1, api.MaxTerm + 1} {
				for _, entries := range [][]api.Entry{nil, of(2), of(0), of(2, 1), {entry(2, long(4097))}} {
					merges(t, l, prev, term, entries, 0, 0, api.ErrIndex)
				}
			}
		}
		shows(t, l, base, []int{0, 1, 1, 2}[base], of(1, 1, 2)[base:]...)
	}
}

// Promise 14.2: another term at prev is told ahead of what is wrong with entries.
func TestMergeShape(t *testing.T) {
	for base := range 4 {
		l := based(t, base, 1, 1, 2)
		terms := []int{0, 1, 1, 2}
		for prev := base; prev <= 3; prev++ {
			for _, term := range append(far(), 0, 1, 2, 3, api.MaxTerm) {
				if term == terms[prev] {
					continue
				}
				for _, entries := range [][]api.Entry{nil, of(3), of(0), of(3, 1), {entry(3, long(4097))}} {
					merges(t, l, prev, term, entries, 0, 0, api.ErrShape)
				}
			}
		}
		shows(t, l, base, terms[base], of(1, 1, 2)[base:]...)
	}
}

// Promise 14.2: a term that may not be, that falls, or Data that is too long is refused wherever it stands among the entries, in this order, and nothing has changed.
func TestMergeRefuses(t *testing.T) {
	tooLong := entry(5, long(4097))
	for i, x := range []struct {
		entries []api.Entry
		want    api.Errno
	}{
		{of(0), api.ErrRange}, {of(-1), api.ErrRange}, {of(api.MaxTerm + 1), api.ErrRange}, {of(5, 0), api.ErrRange}, {of(5, 5, api.MaxTerm+1), api.ErrRange},
		{of(1, 0), api.ErrRange}, {of(5, 4, 0), api.ErrRange}, {[]api.Entry{tooLong, {}}, api.ErrRange}, {[]api.Entry{tooLong, entry(4, ""), {}}, api.ErrRange},
		{of(far()...), api.ErrRange}, {[]api.Entry{entry(0, long(4097))}, api.ErrRange},
		{of(1), api.ErrStale}, {of(2, 2, 1), api.ErrStale}, {of(5, 4), api.ErrStale}, {of(5, 4, 5), api.ErrStale}, {of(1, 5), api.ErrStale}, {of(3, 9, 9, 8, 9), api.ErrStale},
		{[]api.Entry{tooLong, entry(4, "")}, api.ErrStale}, {[]api.Entry{entry(6, ""), tooLong}, api.ErrStale}, {[]api.Entry{entry(1, long(4097))}, api.ErrStale},
		{[]api.Entry{tooLong}, api.ErrLong}, {[]api.Entry{entry(2, ""), tooLong}, api.ErrLong}, {[]api.Entry{tooLong, entry(5, "")}, api.ErrLong}, {[]api.Entry{entry(2, long(1<<18))}, api.ErrLong},
	} {
		l := holding(t, of(1, 1, 2, 2)...)
		merges(t, l, 3, 2, x.entries, 0, 0, x.want)
		merges(t, l, 4, 2, x.entries, 0, 0, x.want)
		shows(t, l, 0, 0, of(1, 1, 2, 2)...)
		if t.Failed() {
			t.Fatal(i)
		}
	}
}

// Promise 14.2: what may just be: the term at prev, the terms 1 and api.MaxTerm, Data of 4096 bytes; also of entries that the log has.
func TestMergeEdges(t *testing.T) {
	l := rlog.New()
	merges(t, l, 0, 0, []api.Entry{entry(1, long(4096)), entry(api.MaxTerm, "")}, 2, 0, api.OK)
	shows(t, l, 0, 0, entry(1, long(4096)), entry(api.MaxTerm, ""))
	merges(t, l, 1, 1, of(1), 2, 1, api.OK)
	merges(t, l, 0, 0, []api.Entry{entry(1, long(4097))}, 0, 0, api.ErrLong)
	merges(t, l, 0, 0, []api.Entry{entry(1, long(4096)), entry(1, "")}, 2, 0, api.OK)
	shows(t, l, 0, 0, entry(1, long(4096)), of(1)[0])
}

// Rule R4: entries that are handed in are not changed, their spare room neither, and not kept.
func TestMergeLeavesEntries(t *testing.T) {
	room := append(of(1, 1, 2), entry(-5, "spare"), entry(-6, "room"))
	was := slices.Clone(room)
	l := rlog.New()
	merges(t, l, 0, 0, room[:3], 3, 0, api.OK)
	appends(t, l, entry(4, "own"), 4, api.OK)
	merges(t, l, 2, 1, of(3), 3, 2, api.OK)
	told(t, l.Compact(1), api.OK)
	if !slices.Equal(room, was) {
		t.Error(room)
	}
	for i := range room {
		room[i] = entry(-9, "changed")
	}
	shows(t, l, 1, 1, was[1], of(3)[0])
}
