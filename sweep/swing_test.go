package sweep_test

import (
	"math/rand"
	"slices"
	"testing"

	"skylark/api"
	"skylark/sweep"
)

// swings fails unless Swing answers those places.
func swings(t *testing.T, live []api.Place, moves []api.Move, want ...api.Place) {
	t.Helper()
	l, e := sweep.Swing(live, moves)
	is(t, l, e, want...)
}

// notSwung fails unless Swing tells ErrLong.
func notSwung(t *testing.T, live []api.Place, moves []api.Move) {
	t.Helper()
	l, e := sweep.Swing(live, moves)
	refuses(t, l, e, api.ErrLong)
}

// manyMoves are so many moves, each from another place.
func manyMoves(n int) []api.Move {
	var l []api.Move
	for i, p := range many(n) {
		l = append(l, api.Move{From: p, To: at(2, i, i)})
	}
	return l
}

// Promise 12.2: places go where the first of their moves says, stay in their order, and as many as they were; others stay.
func TestSwing(t *testing.T) {
	a, b, c, d := at(1, 0, 1), at(1, 9, 2), at(2, 0, 1), at(3, 5, 7)
	swings(t, nil, nil)
	swings(t, []api.Place{}, []api.Move{{From: a, To: b}})
	swings(t, []api.Place{c, a, c}, nil, c, a, c)
	swings(t, []api.Place{c, a, b, a}, []api.Move{{From: a, To: d}}, c, d, b, d)
	swings(t, []api.Place{a, b}, []api.Move{{From: a, To: c}, {From: a, To: d}, {From: b, To: b}, {From: b, To: d}}, c, b)
}

// Promise 12.2: a place goes one move on, not from move to move.
func TestSwingOnce(t *testing.T) {
	a, b, c := at(1, 0, 1), at(1, 9, 2), at(2, 0, 1)
	swings(t, []api.Place{a, b, c}, []api.Move{{From: a, To: b}, {From: b, To: c}}, b, c, c)
	swings(t, []api.Place{a, b, c}, []api.Move{{From: b, To: c}, {From: a, To: b}}, b, c, c)
	swings(t, []api.Place{a, b, b}, []api.Move{{From: a, To: b}, {From: b, To: a}}, b, a, a)
}

// Promise 12.2: a place is a move's From if it is the same in all, whatever place it is.
func TestSwingWhole(t *testing.T) {
	to := at(7, 7, 7)
	live := []api.Place{at(1, 2, 3), at(2, 2, 3), at(1, 3, 3), at(1, 2, 4), at(3, 2, 1), {}}
	for i, from := range live {
		want := slices.Clone(live)
		want[i] = to
		swings(t, live, []api.Move{{From: from, To: to}}, want...)
	}
	for _, n := range far() {
		swings(t, []api.Place{at(n, n, n), to}, []api.Move{{From: to, To: at(n, 0, n)}, {From: at(n, n, n), To: at(0, n, 1)}}, at(0, n, 1), at(n, 0, n))
	}
}

// Promises 12.1 and 12.2: as many places, and moves, as there can be are taken; one more of either are not.
func TestSwingMost(t *testing.T) {
	live, moves := many(api.MaxItems), manyMoves(api.MaxItems)
	var want []api.Place
	for _, m := range moves {
		want = append(want, m.To)
	}
	swings(t, live, moves, want...)
	notSwung(t, many(api.MaxItems+1), moves)
	notSwung(t, many(api.MaxItems+1), nil)
	notSwung(t, live, manyMoves(api.MaxItems+1))
	notSwung(t, nil, manyMoves(api.MaxItems+1))
	notSwung(t, nil, slices.Repeat(moves[:1], api.MaxItems+1))
	notSwung(t, many(2*api.MaxItems), manyMoves(2*api.MaxItems))
}

// Promise 12.2: drawn places and moves, held against the chapter's words.
func TestSwingDrawn(t *testing.T) {
	draw := rand.New(rand.NewSource(14))
	drawn := func() api.Place { return at(draw.Intn(3), draw.Intn(2), draw.Intn(2)) }
	for range 2000 {
		var live, want []api.Place
		var moves []api.Move
		for range draw.Intn(12) {
			moves = append(moves, api.Move{From: drawn(), To: drawn()})
		}
		for range draw.Intn(12) {
			p := drawn()
			live = append(live, p)
			if i := slices.IndexFunc(moves, func(m api.Move) bool { return m.From == p }); i >= 0 {
				p = moves[i].To
			}
			want = append(want, p)
		}
		swings(t, live, moves, want...)
	}
}

// Rule R4: what is handed in is not changed, nor read behind its end; an answer is new memory, spare room too, also if nothing moves.
func TestSwingMemory(t *testing.T) {
	a, b, c := at(1, 0, 1), at(1, 9, 2), at(2, 0, 1)
	for _, moves := range [][]api.Move{{{From: a, To: c}, {From: b, To: c}}, {{From: c, To: a}, {From: a, To: b}}} {
		live := []api.Place{a, b, a, c}
		was := slices.Clone(moves)
		first, e := sweep.Swing(live[:3], moves[:1])
		must(t, e)
		told := slices.Clone(first)
		clear(first[:cap(first)])
		swings(t, live[:3], moves[:1], told...)
		is(t, live, api.OK, a, b, a, c)
		is(t, moves, api.OK, was...)
	}
}
