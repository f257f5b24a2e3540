package rlog_test

import (
	"testing"

	"skylark/api"
	"skylark/rlog"
)

// Promise 14.1: a new log has no entries; its base is 0, and so is the term there.
func TestNew(t *testing.T) {
	l := rlog.New()
	shows(t, l, 0, 0)
	appends(t, l, api.Entry{Term: 3}, 1, api.OK)
	shows(t, rlog.New(), 0, 0)
	shows(t, l, 0, 0, api.Entry{Term: 3})
}

// Promise 14.1: an entry that is appended is the last one, and its number is answered; it may be without Data, and have the same term as the one ahead.
func TestAppend(t *testing.T) {
	l := rlog.New()
	var all []api.Entry
	for i, e := range []api.Entry{{Term: 1, Data: "a"}, {Term: 1}, {Term: 1, Data: "a"}, {Term: 2, Data: "\x00\xff"}, {Term: 7, Data: "b"}, {Term: api.MaxTerm}, {Term: api.MaxTerm, Data: "c"}} {
		appends(t, l, e, i+1, api.OK)
		all = append(all, e)
		shows(t, l, 0, 0, all...)
	}
}

// Promise 14.1: behind a base an entry has the number behind it, if there are none.
func TestAppendBehindBase(t *testing.T) {
	l := based(t, 3, 1, 1, 2)
	shows(t, l, 3, 2)
	appends(t, l, api.Entry{Term: 1}, 0, api.ErrStale)
	appends(t, l, api.Entry{Term: 2, Data: "x"}, 4, api.OK)
	appends(t, l, api.Entry{Term: 4, Data: "y"}, 5, api.OK)
	shows(t, l, 3, 2, api.Entry{Term: 2, Data: "x"}, api.Entry{Term: 4, Data: "y"})
}

// Promise 14.1: a term that may not be is refused, ahead of one that is below the last, and of Data that is too long.
func TestAppendRange(t *testing.T) {
	for _, l := range []*rlog.Log{rlog.New(), holding(t, of(1, 5)...), based(t, 2, 1, 5)} {
		last, term := l.Last()
		for _, bad := range append(far(), 0) {
			if bad >= 1 && bad <= api.MaxTerm {
				continue
			}
			appends(t, l, api.Entry{Term: bad}, 0, api.ErrRange)
			appends(t, l, api.Entry{Term: bad, Data: long(4097)}, 0, api.ErrRange)
		}
		if i, x := l.Last(); i != last || x != term {
			t.Error(i, x)
		}
		appends(t, l, api.Entry{Term: api.MaxTerm}, last+1, api.OK)
		appends(t, l, api.Entry{Term: api.MaxTerm + 1}, 0, api.ErrRange)
	}
	appends(t, rlog.New(), api.Entry{Term: 1}, 1, api.OK)
}

// Promise 14.1: terms never fall along a log; that is told ahead of Data that is too long.
func TestAppendStale(t *testing.T) {
	l := holding(t, of(2, 5)...)
	for _, term := range []int{1, 2, 3, 4} {
		appends(t, l, api.Entry{Term: term}, 0, api.ErrStale)
		appends(t, l, api.Entry{Term: term, Data: long(4097)}, 0, api.ErrStale)
	}
	shows(t, l, 0, 0, of(2, 5)...)
	appends(t, l, api.Entry{Term: 5}, 3, api.OK)
}

// Promise 14.1: Data has at most 4096 bytes.
func TestAppendLong(t *testing.T) {
	l := rlog.New()
	for _, size := range []int{4097, 4098, 8192, 1 << 18} {
		appends(t, l, api.Entry{Term: 1, Data: long(size)}, 0, api.ErrLong)
	}
	shows(t, l, 0, 0)
	appends(t, l, api.Entry{Term: 1, Data: long(4095)}, 1, api.OK)
	appends(t, l, api.Entry{Term: 1, Data: long(4096)}, 2, api.OK)
	appends(t, l, api.Entry{Term: 1, Data: long(4097)}, 0, api.ErrLong)
	shows(t, l, 0, 0, api.Entry{Term: 1, Data: long(4095)}, api.Entry{Term: 1, Data: long(4096)})
}

// Promise 14.1: Term tells of the base, and of each number up to the last, and of no other.
func TestTerm(t *testing.T) {
	terms := []int{0, 1, 1, 2, 5}
	for base := range terms {
		l := based(t, base, terms[1:]...)
		for i := -3; i < 9; i++ {
			x, e := l.Term(i)
			if i < base || i >= len(terms) {
				if x != 0 || e != api.ErrIndex {
					t.Error(base, i, x, e)
				}
			} else if x != terms[i] || e != api.OK {
				t.Error(base, i, x, e)
			}
		}
		for _, i := range far() {
			if x, e := l.Term(i); x != 0 || e != api.ErrIndex {
				t.Error(base, i, x, e)
			}
		}
	}
}

// isFull fails unless a log whose last number is api.MaxIndex, of the term 6, takes no more; a term that may not be, or that falls, is told ahead.
func isFull(t *testing.T, l *rlog.Log) {
	t.Helper()
	appends(t, l, api.Entry{Term: 6}, 0, api.ErrLong)
	appends(t, l, api.Entry{Term: 5}, 0, api.ErrStale)
	appends(t, l, api.Entry{}, 0, api.ErrRange)
	merges(t, l, api.MaxIndex, 6, of(6), 0, 0, api.ErrLong)
	merges(t, l, api.MaxIndex, 6, of(5), 0, 0, api.ErrStale)
	merges(t, l, api.MaxIndex, 6, nil, api.MaxIndex, 0, api.OK)
	merges(t, l, api.MaxIndex+1, 6, nil, 0, 0, api.ErrIndex)
	sliced(t, l, api.MaxIndex+1, 9, nil, api.OK)
	sliced(t, l, api.MaxIndex+2, 9, nil, api.ErrIndex)
	if i, x := l.Last(); i != api.MaxIndex || x != 6 {
		t.Error(i, x)
	}
}

// Promises 14.1 and 14.2: the last number comes to api.MaxIndex, and not above, be entries there or let go.
func TestMostEntries(t *testing.T) {
	l := rlog.New()
	for i := range api.MaxIndex - 2 {
		if n, e := l.Append(api.Entry{Term: 1 + i>>18}); n != i+1 || e != api.OK {
			t.Fatal(i, n, e)
		}
	}
	merges(t, l, api.MaxIndex-2, 4, of(5, 5, 5), 0, 0, api.ErrLong)
	merges(t, l, api.MaxIndex-3, 4, of(4, 5, 5, 5), 0, 0, api.ErrLong)
	merges(t, l, api.MaxIndex-3, 4, of(5, 5, 5, 5), 0, 0, api.ErrLong)
	merges(t, l, api.MaxIndex-2, 4, of(5, 5, 4), 0, 0, api.ErrStale)
	merges(t, l, api.MaxIndex-2, 4, of(5, 5, 0), 0, 0, api.ErrRange)
	if i, x := l.Last(); i != api.MaxIndex-2 || x != 4 {
		t.Error(i, x)
	}
	merges(t, l, api.MaxIndex-3, 4, of(4, 5, 6), api.MaxIndex, 0, api.OK)
	isFull(t, l)
	agrees(t, l, []int{api.MaxIndex, api.MaxIndex}, 6, 0, api.MaxIndex, api.OK)
	agrees(t, l, []int{api.MaxIndex, api.MaxIndex}, 1, 0, 1<<18, api.OK)
	told(t, l.Compact(api.MaxIndex-1), api.OK)
	isFull(t, l)
	told(t, l.Compact(api.MaxIndex), api.OK)
	isFull(t, l)
	shows(t, l, api.MaxIndex, 6)
}
