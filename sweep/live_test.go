package sweep_test

import (
	"math/rand"
	"slices"
	"testing"

	"skylark/api"
	"skylark/sweep"
)

// lives fails unless Live answers those sizes.
func lives(t *testing.T, live []api.Place, want ...api.Size) {
	t.Helper()
	l, e := sweep.Live(live)
	is(t, l, e, want...)
}

// The chapter's example.
func TestExample(t *testing.T) {
	live := []api.Place{at(1, 0, 12), at(2, 0, 52)}
	lives(t, live, api.Size{File: 1, Bytes: 20}, api.Size{File: 2, Bytes: 60})
	l, e := sweep.Plan([]api.Size{{File: 1, Bytes: 100}, {File: 2, Bytes: 100}, {File: 3, Bytes: 10}}, live, 50)
	is(t, l, e, 1)
}

// Promise 12.1: files stand by numbers, whichever there are, and in whatever order their places come.
func TestLiveByNumbers(t *testing.T) {
	lives(t, nil)
	lives(t, []api.Place{})
	lives(t, []api.Place{at(10, 5, 1), at(9, 0, 0), at(10, 0, 3), at(-4, -9, 2), at(9, 8, 0), at(0, 0, 0), at(api.MaxIndex+1, 0, 1)},
		api.Size{File: -4, Bytes: 10}, api.Size{File: 0, Bytes: 8}, api.Size{File: 9, Bytes: 16}, api.Size{File: 10, Bytes: 20}, api.Size{File: api.MaxIndex + 1, Bytes: 9})
	for _, n := range far() {
		lives(t, []api.Place{at(n, n, 5)}, api.Size{File: n, Bytes: 13})
	}
}

// Promise 12.1: a place that is there more than once counts once; one that is another place in anything counts too.
func TestLiveEachOnce(t *testing.T) {
	lives(t, []api.Place{at(1, 0, 5), at(2, 0, 5), at(1, 0, 5), at(1, 0, 5), at(2, 0, 5)}, api.Size{File: 1, Bytes: 13}, api.Size{File: 2, Bytes: 13})
	lives(t, []api.Place{at(1, 0, 5), at(1, 1, 5), at(1, 0, 6), at(1, 1, 5), at(1, 0, 5)}, api.Size{File: 1, Bytes: 13 + 13 + 14})
	lives(t, slices.Repeat([]api.Place{at(7, 7, 7)}, api.MaxItems), api.Size{File: 7, Bytes: 15})
}

// Promise 12.1: places with a Long that is not from 0 to api.MaxFrame do not count: a file of such alone has no live place.
func TestLiveLong(t *testing.T) {
	lives(t, []api.Place{at(1, 0, 0), at(2, 0, api.MaxFrame)}, api.Size{File: 1, Bytes: 8}, api.Size{File: 2, Bytes: api.MaxFrame + 8})
	for _, long := range far() {
		if long == 0 {
			continue
		}
		lives(t, []api.Place{at(1, 0, long)})
		lives(t, []api.Place{at(3, 0, 1), at(2, 0, long), at(1, 0, 2), at(3, 1, long), at(1, 0, long)}, api.Size{File: 1, Bytes: 10}, api.Size{File: 3, Bytes: 9})
	}
}

// Promise 12.1: as many places as there can be, of one file and of unlike ones.
func TestLiveMost(t *testing.T) {
	lives(t, many(api.MaxItems), api.Size{File: 1, Bytes: 8 * api.MaxItems})
	var live []api.Place
	var want []api.Size
	for i := range api.MaxItems {
		live = append(live, at(api.MaxItems-i, 0, i))
		want = append(want, api.Size{File: i + 1, Bytes: api.MaxItems - i - 1 + 8})
	}
	lives(t, live, want...)
	for i := range live {
		live[i] = at(1, i, api.MaxFrame)
	}
	lives(t, live, api.Size{File: 1, Bytes: api.MaxItems * (api.MaxFrame + 8)})
}

// Promise 12.1: one place more is refused, also if it is there already, or does not count.
func TestLiveTooMany(t *testing.T) {
	for _, live := range [][]api.Place{many(api.MaxItems + 1), slices.Repeat([]api.Place{at(1, 0, 0)}, api.MaxItems+1), slices.Repeat([]api.Place{at(1, 0, -1)}, api.MaxItems+1), many(3 * api.MaxItems)} {
		l, e := sweep.Live(live)
		refuses(t, l, e, api.ErrLong)
	}
}

// drawnPlaces are places some of which are there more than once, and some of which do not count.
func drawnPlaces(draw *rand.Rand) []api.Place {
	var l []api.Place
	for range draw.Intn(30) {
		l = append(l, at(draw.Intn(6), draw.Intn(3), []int{-1, 0, 1, 30, api.MaxFrame, api.MaxFrame + 1}[draw.Intn(6)]))
	}
	return l
}

// liveIn is how many bytes of a file are live, by the chapter's words.
func liveIn(live []api.Place, file int) int {
	bytes := 0
	for i, p := range live {
		if p.File == file && p.Long >= 0 && p.Long <= api.MaxFrame && !slices.Contains(live[:i], p) {
			bytes += p.Long + 8
		}
	}
	return bytes
}

// Promise 12.1: drawn places, held against the chapter's words.
func TestLiveDrawn(t *testing.T) {
	draw := rand.New(rand.NewSource(12))
	for range 2000 {
		live := drawnPlaces(draw)
		var want []api.Size
		for file := range 6 {
			if bytes := liveIn(live, file); bytes > 0 {
				want = append(want, api.Size{File: file, Bytes: bytes})
			}
		}
		lives(t, live, want...)
	}
}

// Rule R4: what is handed in is not changed, nor read behind its end; an answer is new memory, spare room too.
func TestLiveMemory(t *testing.T) {
	live := []api.Place{at(2, 0, 1), at(1, 0, 1), at(2, 0, 1), at(9, 9, 9)}
	was := slices.Clone(live)
	first, e := sweep.Live(live[:3])
	is(t, first, e, api.Size{File: 1, Bytes: 9}, api.Size{File: 2, Bytes: 9})
	clear(first[:cap(first)])
	lives(t, live[:3], api.Size{File: 1, Bytes: 9}, api.Size{File: 2, Bytes: 9})
	is(t, live, api.OK, was...)
}
