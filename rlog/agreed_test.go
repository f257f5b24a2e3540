package rlog_test

import (
	"math"
	"slices"
	"testing"

	"skylark/api"
	"skylark/rlog"
)

// Promise 14.4: more than half of match must not be below the number: of an even number, half is too few; the order of match is nothing.
func TestAgreedMoreThanHalf(t *testing.T) {
	l := holding(t, of(1, 1, 1, 1, 1)...)
	for _, x := range []struct {
		match []int
		want  int
	}{
		{[]int{3}, 3}, {[]int{0}, 0}, {[]int{5, 0}, 0}, {[]int{5, 2}, 2}, {[]int{2, 5}, 2}, {[]int{1, 2, 3}, 2}, {[]int{3, 1, 2}, 2}, {[]int{5, 5, 0}, 5}, {[]int{0, 5, 5}, 5}, {[]int{5, 0, 0}, 0},
		{[]int{5, 5, 0, 0}, 0}, {[]int{5, 4, 3, 2}, 3}, {[]int{2, 4, 5, 3}, 3}, {[]int{5, 5, 5, 0}, 5}, {[]int{1, 2, 3, 4, 5}, 3}, {[]int{4, 4, 1, 1, 4}, 4}, {[]int{1, 1, 4, 1, 4}, 1},
		{[]int{1, 1, 1, 4, 4, 4}, 1}, {[]int{1, 1, 4, 4, 4, 4}, 4}, {slices.Repeat([]int{4, 0}, 5000), 0}, {append(slices.Repeat([]int{4, 0}, 5000), 3), 3},
	} {
		agrees(t, l, x.match, 1, 0, x.want, api.OK)
	}
}

// Promise 14.4: just entries of the term count, the greatest number of them that enough have, even if those have more.
func TestAgreedTerm(t *testing.T) {
	l := holding(t, of(1, 1, 2, 4, 4, 6)...)
	for _, x := range []struct{ have, term, want int }{
		{6, 6, 6}, {6, 4, 5}, {6, 2, 3}, {6, 1, 2}, {5, 6, 0}, {5, 4, 5}, {4, 4, 4}, {3, 4, 0}, {3, 2, 3}, {2, 2, 0}, {2, 1, 2}, {1, 1, 1}, {0, 1, 0},
		{6, 3, 0}, {6, 5, 0}, {6, 7, 0}, {6, 0, 0}, {6, -1, 0}, {6, math.MinInt, 0}, {6, math.MaxInt, 0},
	} {
		agrees(t, l, []int{x.have, x.have, 0}, x.term, 0, x.want, api.OK)
	}
}

// Promise 14.4: the number is above commit, or it is commit, which may be any number from 0 on.
func TestAgreedCommit(t *testing.T) {
	l := holding(t, of(1, 1, 2, 2)...)
	for _, x := range []struct{ have, term, commit, want int }{
		{4, 2, 0, 4}, {4, 2, 3, 4}, {4, 2, 4, 4}, {3, 2, 3, 3}, {2, 2, 3, 3}, {4, 1, 0, 2}, {4, 1, 1, 2}, {4, 1, 2, 2}, {4, 1, 3, 3}, {4, 2, 5, 5},
		{4, 2, api.MaxIndex + 1, api.MaxIndex + 1}, {4, 2, math.MaxInt, math.MaxInt},
	} {
		agrees(t, l, []int{x.have}, x.term, x.commit, x.want, api.OK)
	}
}

// Promise 14.4: the number is at most the last, and match may be any numbers.
func TestAgreedLast(t *testing.T) {
	l := holding(t, of(1, 1)...)
	for _, have := range []int{2, 3, api.MaxIndex, math.MaxInt} {
		agrees(t, l, []int{have}, 1, 0, 2, api.OK)
	}
	for _, have := range []int{0, -1, math.MinInt} {
		agrees(t, l, []int{have}, 1, 0, 0, api.OK)
		agrees(t, l, []int{have, math.MaxInt}, 1, 0, 0, api.OK)
	}
	agrees(t, rlog.New(), []int{5, 5}, 0, 0, 0, api.OK)
	agrees(t, rlog.New(), []int{5, 5}, 0, 3, 3, api.OK)
	agrees(t, rlog.New(), []int{5, 5}, 1, 0, 0, api.OK)
}

// Promise 14.4: the number is above the base, even if enough have that, and its term is the one asked for.
func TestAgreedBase(t *testing.T) {
	for base := range 5 {
		l := based(t, base, 1, 1, 1, 2)
		for have := range 6 {
			want := min(have, 3)
			if want <= base {
				want = 0
			}
			agrees(t, l, []int{have}, 1, 0, want, api.OK)
		}
	}
	agrees(t, based(t, 3, 1, 1, 1), []int{9}, 1, 2, 2, api.OK)
}

// Promise 14.4: without match, or with commit below 0, it is refused.
func TestAgreedRefuses(t *testing.T) {
	for _, l := range []*rlog.Log{rlog.New(), holding(t, of(1, 1)...)} {
		for _, term := range []int{0, 1, -1, math.MaxInt} {
			for _, commit := range []int{0, 1, -1, math.MinInt, math.MaxInt} {
				agrees(t, l, nil, term, commit, 0, api.ErrRange)
				agrees(t, l, []int{}, term, commit, 0, api.ErrRange)
			}
			for _, commit := range []int{-1, -2, math.MinInt} {
				agrees(t, l, []int{2, 2, 2}, term, commit, 0, api.ErrRange)
			}
		}
	}
}

// Rule R4: match is not changed, nor read behind its length.
func TestAgreedLeavesMatch(t *testing.T) {
	l := holding(t, of(1, 1, 1, 1, 1)...)
	room := []int{5, 1, 3, 5, 5, 5}
	agrees(t, l, room[:3], 1, 0, 3, api.OK)
	if !slices.Equal(room, []int{5, 1, 3, 5, 5, 5}) {
		t.Error(room)
	}
	shows(t, l, 0, 0, of(1, 1, 1, 1, 1)...)
}
