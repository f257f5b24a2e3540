package rlog_test

import (
	"math"
	"slices"
	"testing"

	"skylark/api"
	"skylark/rlog"
)

// Promise 14.3: Slice answers the entries from a number on, at most so many; just behind the last there are none.
func TestSlice(t *testing.T) {
	all := of(1, 1, 2, 5, 5)
	for base := range 6 {
		l := based(t, base, 1, 1, 2, 5, 5)
		for from := base + 1; from <= 6; from++ {
			for most := range 8 {
				sliced(t, l, from, most, all[from-1:min(from-1+most, 5)], api.OK)
			}
			for _, most := range []int{api.MaxIndex, math.MaxInt - 1, math.MaxInt} {
				sliced(t, l, from, most, all[from-1:], api.OK)
			}
		}
	}
	sliced(t, rlog.New(), 1, 3, nil, api.OK)
}

// Promise 14.3: a number that is not there is told ahead of one that is below 0.
func TestSliceRefuses(t *testing.T) {
	for base := range 4 {
		l := based(t, base, 1, 1, 2)
		for _, from := range append(far(), base, base-1, 5, 6) {
			for _, most := range append(far(), 0, 1) {
				sliced(t, l, from, most, nil, api.ErrIndex)
			}
		}
		for from := base + 1; from <= 4; from++ {
			for _, most := range far() {
				if most < 0 {
					sliced(t, l, from, most, nil, api.ErrRange)
				}
			}
		}
		shows(t, l, base, []int{0, 1, 1, 2}[base], of(1, 1, 2)[base:]...)
	}
}

// Rule R4: what Slice answers is new memory, spare room too.
func TestSliceIsNew(t *testing.T) {
	l := holding(t, of(1, 1, 2, 5, 5)...)
	first, _ := l.Slice(2, 2)
	second, _ := l.Slice(2, 2)
	third, _ := l.Slice(1, 5)
	for _, list := range [][]api.Entry{first, second} {
		for i := range list[:cap(list)] {
			list[:cap(list)][i] = entry(-1, "changed")
		}
	}
	if !slices.Equal(third, of(1, 1, 2, 5, 5)) {
		t.Error(third)
	}
	shows(t, l, 0, 0, of(1, 1, 2, 5, 5)...)
	fourth, _ := l.Slice(2, 2)
	merges(t, l, 1, 1, of(6, 6, 6), 4, 4, api.OK)
	told(t, l.Compact(3), api.OK)
	if !slices.Equal(fourth, of(1, 1, 2, 5, 5)[1:3]) {
		t.Error(fourth)
	}
}

// Promise 14.3: another log is at least as far if its last term is greater, or the same and its last number not less; any numbers may be asked.
func TestBehind(t *testing.T) {
	for _, l := range []*rlog.Log{holding(t, of(1, 1, 4)...), based(t, 2, 1, 1, 4), based(t, 3, 1, 1, 4)} {
		for _, x := range []struct {
			index, term int
			want        bool
		}{
			{3, 4, true}, {4, 4, true}, {2, 4, false}, {0, 4, false}, {-1, 4, false}, {3, 5, true}, {2, 5, true}, {0, 5, true}, {-1, 5, true}, {9, 3, false}, {3, 3, false},
			{math.MaxInt, 4, true}, {math.MinInt, 4, false}, {math.MinInt, math.MaxInt, true}, {math.MaxInt, math.MinInt, false}, {math.MaxInt, 0, false},
		} {
			if got := l.Behind(x.index, x.term); got != x.want {
				t.Error(x, got)
			}
		}
	}
	l := rlog.New()
	for _, x := range []struct {
		index, term int
		want        bool
	}{{0, 0, true}, {1, 0, true}, {-1, 0, false}, {0, 1, true}, {5, -1, false}, {0, -1, false}} {
		if got := l.Behind(x.index, x.term); got != x.want {
			t.Error(x, got)
		}
	}
}

// Promise 14.3: entries up to a number are let go, none or all of them too; it is the base, whose term is still known, and the rest is as it was.
func TestCompact(t *testing.T) {
	all, terms := of(1, 1, 2, 5, 5), []int{0, 1, 1, 2, 5, 5}
	for first := range 6 {
		for second := first; second < 6; second++ {
			l := holding(t, all...)
			told(t, l.Compact(first), api.OK)
			shows(t, l, first, terms[first], all[first:]...)
			told(t, l.Compact(second), api.OK)
			shows(t, l, second, terms[second], all[second:]...)
			told(t, l.Compact(second), api.OK)
			appends(t, l, entry(9, "x"), 6, api.OK)
			shows(t, l, second, terms[second], append(of(1, 1, 2, 5, 5)[second:], entry(9, "x"))...)
		}
	}
	l := rlog.New()
	told(t, l.Compact(0), api.OK)
	shows(t, l, 0, 0)
}

// Promise 14.3: a number that the log has not is refused, and nothing is let go.
func TestCompactIndex(t *testing.T) {
	for base := range 4 {
		l := based(t, base, 1, 1, 2)
		for _, i := range append(far(), base-1, 4, 5) {
			told(t, l.Compact(i), api.ErrIndex)
		}
		shows(t, l, base, []int{0, 1, 1, 2}[base], of(1, 1, 2)[base:]...)
	}
	l := rlog.New()
	told(t, l.Compact(1), api.ErrIndex)
	told(t, l.Compact(-1), api.ErrIndex)
	shows(t, l, 0, 0)
}

// Promise 14.3: a log of many entries that is let go one by one stays whole.
func TestCompactOneByOne(t *testing.T) {
	const many = 1 << 18
	l := rlog.New()
	for i := range many {
		appends(t, l, api.Entry{Term: 1 + i}, i+1, api.OK)
	}
	for i := 1; i <= many; i++ {
		told(t, l.Compact(i), api.OK)
		base, baseTerm := l.Base()
		last, lastTerm := l.Last()
		if base != i || baseTerm != i || last != many || lastTerm != many {
			t.Fatal(base, baseTerm, last, lastTerm)
		}
	}
	shows(t, l, many, many)
}
