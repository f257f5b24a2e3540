package sweep_test

import (
	"math/rand"
	"slices"
	"testing"

	"skylark/api"
	"skylark/sweep"
)

// plans fails unless Plan answers those files.
func plans(t *testing.T, sizes []api.Size, live []api.Place, percent int, want ...int) {
	t.Helper()
	l, e := sweep.Plan(sizes, live, percent)
	is(t, l, e, want...)
}

// notPlanned fails unless Plan tells that error.
func notPlanned(t *testing.T, sizes []api.Size, live []api.Place, percent int, want api.Errno) {
	t.Helper()
	l, e := sweep.Plan(sizes, live, percent)
	refuses(t, l, e, want)
}

// Promise 12.1: a file is planned if its part that is live is below percent, and not if it is just that.
func TestPlanPercent(t *testing.T) {
	sizes := []api.Size{{File: 1, Bytes: 100}, {File: 2, Bytes: 200}, {File: 5, Bytes: 1000}, {File: 9, Bytes: 10}}
	live := []api.Place{at(5, 0, 984), at(2, 0, 0), at(1, 0, 12), at(5, 992, 0), at(1, 0, 12)}
	plans(t, sizes, live, 1)
	plans(t, sizes, live, 4)
	plans(t, sizes, live, 5, 2)
	plans(t, sizes, live, 20, 2)
	plans(t, sizes, live, 21, 1, 2)
	plans(t, sizes, live, 100, 1, 2)
	plans(t, sizes, live[:3], 99, 1, 2)
	plans(t, sizes, live[:3], 100, 1, 2, 5)
	plans(t, sizes, nil, 1, 1, 2, 5)
	// Parts of a percent: 8 bytes of 799 are more than 1 percent, those of 801 are less.
	plans(t, []api.Size{{File: 1, Bytes: 799}, {File: 2, Bytes: 800}, {File: 3, Bytes: 801}, {File: 4}}, []api.Place{at(1, 0, 0), at(2, 0, 0), at(3, 0, 0)}, 1, 3)
}

// Promise 12.1: the last file is not planned, whatever is live; the last that is planned is one ahead of it.
func TestPlanNotTheLast(t *testing.T) {
	for _, live := range [][]api.Place{nil, {}, many(3)} {
		plans(t, nil, live, 50)
		plans(t, []api.Size{}, live, 50)
		plans(t, []api.Size{{File: 2, Bytes: 100}}, live, 100)
		plans(t, []api.Size{{File: 2, Bytes: 100}, {File: 3, Bytes: 100}}, live, 100, 2)
		plans(t, []api.Size{{File: 2, Bytes: 100}, {File: 3, Bytes: 100}, {File: 4}}, live, 100, 2, 3)
	}
}

// Promise 12.1: a file without bytes has no part that is less; one with more that is live than it has is not planned either.
func TestPlanEdgesOfBytes(t *testing.T) {
	last := api.Size{File: 1 << 40}
	plans(t, []api.Size{{File: 1, Bytes: 0}, {File: 2, Bytes: 1}, {File: api.MaxIndex + 9, Bytes: api.MaxBytes}, last}, nil, 1, 2, api.MaxIndex+9)
	plans(t, []api.Size{{File: 1, Bytes: 0}, {File: 2, Bytes: 7}, {File: 3, Bytes: api.MaxBytes}, last}, []api.Place{at(1, 0, 0), at(2, 0, 0), at(3, 0, api.MaxFrame)}, 100, 3)
	var most []api.Place
	for i := range api.MaxItems {
		most = append(most, at(1, i, api.MaxFrame))
	}
	plans(t, []api.Size{{File: 1, Bytes: api.MaxBytes}, last}, most, 100)
}

// Promise 12.1: places that do not count leave a file without live bytes; those of files that have no size change nothing.
func TestPlanOtherPlaces(t *testing.T) {
	sizes := []api.Size{{File: 2, Bytes: 10}, {File: 4, Bytes: 10}, {File: 6, Bytes: 10}}
	for _, n := range far() {
		plans(t, sizes, []api.Place{at(n, 0, 5), at(4, n, 5), at(1, 0, 100), at(3, 0, 100)}, 100, 2)
		if n != 0 {
			plans(t, sizes, []api.Place{at(2, 0, n), at(4, 0, n)}, 1, 2, 4)
		}
	}
}

// Promise 12.1: percent is from 1 to 100.
func TestPlanPercentRefused(t *testing.T) {
	sizes := []api.Size{{File: 1, Bytes: 10}, {File: 2, Bytes: 10}}
	for _, percent := range append(far(), 101) {
		notPlanned(t, sizes, nil, percent, api.ErrRange)
		notPlanned(t, nil, nil, percent, api.ErrRange)
	}
	plans(t, sizes, nil, 1, 1)
	plans(t, sizes, nil, 100, 1)
}

// Promise 12.1: sizes rise by File, from 1 on, and each has from 0 to api.MaxBytes bytes, the last one too.
func TestPlanSizesRefused(t *testing.T) {
	fine := []api.Size{{File: 3, Bytes: 10}, {File: 4, Bytes: 10}}
	bad := [][]api.Size{
		{{File: 1, Bytes: 5}, {File: 1, Bytes: 5}}, {{File: 2, Bytes: 5}, {File: 1, Bytes: 5}},
		{{File: 1}, {File: 3}, {File: 2}, {File: 4}}, {{File: 1}, {File: 2}, {File: 2}},
		{{File: 0, Bytes: 5}}, {{File: -1, Bytes: 5}}, {{File: -1}, {File: 0}, {File: 1}}, {{File: 0}, {File: 1}},
		{{File: 1, Bytes: -1}}, {{File: 1, Bytes: api.MaxBytes + 1}}, {{File: 1, Bytes: -1}, {File: 2}}, {{File: 1}, {File: 2, Bytes: api.MaxBytes + 1}},
	}
	for _, n := range far() {
		if n < 1 {
			bad = append(bad, []api.Size{{File: n, Bytes: 1}}, append([]api.Size{{File: n}}, fine...), append(slices.Clone(fine), api.Size{File: n}))
		}
		if n < 0 || n > api.MaxBytes {
			bad = append(bad, []api.Size{{File: 1, Bytes: n}}, append(slices.Clone(fine), api.Size{File: 5, Bytes: n}))
		}
	}
	for _, sizes := range bad {
		notPlanned(t, sizes, nil, 50, api.ErrRange)
		notPlanned(t, sizes, many(2), 100, api.ErrRange)
	}
}

// Promise 12.1 and rule R1: more than api.MaxItems places are refused, behind sizes that may not be, ahead of a percent that may not.
func TestPlanTooMany(t *testing.T) {
	sizes := []api.Size{{File: 1, Bytes: api.MaxBytes}, {File: 2, Bytes: 10}}
	plans(t, sizes, many(api.MaxItems), 50, 1)
	long := many(api.MaxItems + 1)
	notPlanned(t, sizes, long, 50, api.ErrLong)
	notPlanned(t, nil, long, 50, api.ErrLong)
	notPlanned(t, sizes, long, 0, api.ErrLong)
	notPlanned(t, []api.Size{{}}, long, 50, api.ErrRange)
}

// Promise 12.1: drawn sizes and places, held against the chapter's words.
func TestPlanDrawn(t *testing.T) {
	draw := rand.New(rand.NewSource(13))
	for range 2000 {
		live, percent := drawnPlaces(draw), 1+draw.Intn(100)
		var sizes []api.Size
		for file := 1; file < 7; file++ {
			if draw.Intn(4) > 0 {
				sizes = append(sizes, api.Size{File: file, Bytes: draw.Intn([]int{20, 300, api.MaxBytes + 1}[draw.Intn(3)])})
			}
		}
		var want []int
		for i, s := range sizes {
			if 100*liveIn(live, s.File) < percent*s.Bytes && i+1 < len(sizes) {
				want = append(want, s.File)
			}
		}
		plans(t, sizes, live, percent, want...)
	}
}

// Rule R4: what is handed in is not changed, nor read behind its end; an answer is new memory, spare room too.
func TestPlanMemory(t *testing.T) {
	sizes := []api.Size{{File: 1, Bytes: 100}, {File: 2, Bytes: 100}, {File: 3, Bytes: 100}, {File: 0, Bytes: -1}}
	live := []api.Place{at(3, 0, 99), at(2, 0, 1), at(1, 0, 1), at(1, 9, 99)}
	wasSizes, wasLive := slices.Clone(sizes), slices.Clone(live)
	first, e := sweep.Plan(sizes[:3], live[:3], 50)
	is(t, first, e, 1, 2)
	clear(first[:cap(first)])
	plans(t, sizes[:3], live[:3], 50, 1, 2)
	is(t, sizes, api.OK, wasSizes...)
	is(t, live, api.OK, wasLive...)
}
