package admin_test

import (
	"math"
	"testing"

	"skylark/admin"
	"skylark/api"
)

// Promise 18.1: so many bricks, all free, no chains, no layout, no change.
func TestNew(t *testing.T) {
	for many := 1; many <= api.MaxNodes; many++ {
		a := newAdmin(t, many)
		for b := range many {
			brick(t, a, b, api.BFree, -1)
		}
		for _, b := range []int{-1, many, many + 1, math.MinInt, math.MaxInt, 1 << 32} {
			if s, c, e := a.Brick(b); s != 0 || c != 0 || e != api.ErrRange {
				t.Error(many, b, s, c, e)
			}
		}
		if l := a.Chains(); len(l) != 0 {
			t.Error(l)
		}
		if l, ok := a.Layout(); ok || l.Version != 0 || len(l.Weights) != 0 {
			t.Error(l, ok)
		}
		noChange(t, a)
		for _, key := range []string{"", "k", long(5000)} {
			if o, e := a.Owner(key); o != 0 || e != api.ErrPlan {
				t.Error(o, e)
			}
		}
	}
	for _, many := range []int{0, -1, api.MaxNodes + 1, math.MinInt, math.MaxInt, 1<<32 + 1} {
		if a, e := admin.New(many); a != nil || e != api.ErrRange {
			t.Error(many, a, e)
		}
	}
}

// The chapter's example.
func TestExample(t *testing.T) {
	a := behind(t, 5, made(0, 1, 2))
	chain(t, a, 0, 1, bricks(0, 1, 2), nil)
	does(t, a, down(1))
	chain(t, a, 0, 2, bricks(0, 2), nil)
	does(t, a, up(1))
	chain(t, a, 0, 3, bricks(0, 2), bricks(1))
	does(t, a, repaired(1, 3))
	chain(t, a, 0, 4, bricks(0, 2, 1), nil)
}

// Promise 18.1: CMake makes a chain of bricks in the order that is told, of the epoch 1.
func TestMake(t *testing.T) {
	a := behind(t, 16, made(5, 0, 9), made(1), made(15, 14, 13, 12, 11, 10, 8, 7))
	chain(t, a, 0, 1, bricks(5, 0, 9), nil)
	chain(t, a, 1, 1, bricks(1), nil)
	chain(t, a, 2, 1, bricks(15, 14, 13, 12, 11, 10, 8, 7), nil)
	for b, want := range []int{0, 1, -1, -1, -1, 0, -1, 2, 2, 0, 2, 2, 2, 2, 2, 2} {
		state := api.BOk
		if want == -1 {
			state = api.BFree
		}
		brick(t, a, b, state, want)
	}
	does(t, a, leave(0), made(0))
	chain(t, a, 0, 2, bricks(5, 9), nil)
	chain(t, a, 3, 1, bricks(0), nil)
	brick(t, a, 0, api.BOk, 3)
}

// Promise 18.1: CMake refuses no bricks, more than 8, one twice, one that is not free in any way.
func TestMakeRefuses(t *testing.T) {
	a := behind(t, 16, made(0, 1, 2), join(0, 3), down(1), made(4), down(4))
	refuses(t, a, api.ErrPlan,
		made(), api.Cmd{Kind: api.CMake, List: []int{}}, made(5, 6, 7, 8, 9, 10, 11, 12, 13), made(5, 5), made(5, 6, 5), made(5, 6, 7, 8, 9, 10, 11, 5),
		made(0), made(1), made(2), made(3), made(4), made(5, 0), made(1, 5), made(5, 6, 3), made(5, 6, 7, 8, 9, 10, 11, 4),
		made(make([]int, 5000)...), made(make([]int, 9)...))
	refuses(t, a, api.ErrRange, made(16), made(-1), made(5, 16), made(0, 16), made(5, 5, 16), made(5, 6, 7, 8, 9, 10, 11, 12, 16), made(math.MinInt), made(math.MaxInt), made(5, 6, -2), made(1<<32+5))
	does(t, a, made(5, 6, 7, 8, 9, 10, 11, 12))
	small := newAdmin(t, 3)
	refuses(t, small, api.ErrRange, made(3), made(0, 1, 2, 3))
	does(t, small, made(2, 1, 0))
}

// Promise 18.1: there are at most api.MaxChains chains; bricks that may not come are told first.
func TestMakeMany(t *testing.T) {
	a := newAdmin(t, 16)
	for i := range api.MaxChains {
		does(t, a, made(i))
	}
	refuses(t, a, api.ErrLong, made(8), made(8, 9))
	refuses(t, a, api.ErrPlan, made(0), made(), made(8, 8), made(8, 0))
	refuses(t, a, api.ErrRange, made(16), made(8, 16))
	lies(t, a, 8, 16, 16, 16, 16, 16, 16, 16, 16)
}

// Promise 18.1: CJoin lets a free brick be the last that a chain repairs, however the chain stands.
func TestJoin(t *testing.T) {
	a := behind(t, 7, made(0), made(1), join(1, 6), join(1, 2), join(0, 3))
	chain(t, a, 0, 2, bricks(0), bricks(3))
	chain(t, a, 1, 3, bricks(1), bricks(6, 2))
	brick(t, a, 6, api.BRepair, 1)
	brick(t, a, 3, api.BRepair, 0)
	does(t, a, down(0), join(0, 4))
	chain(t, a, 0, 4, bricks(0), bricks(3, 4))
	brick(t, a, 4, api.BRepair, 0)
	does(t, a, down(6))
	refuses(t, a, api.ErrPlan, join(0, 0), join(1, 0), join(0, 1), join(0, 2), join(1, 2), join(0, 3), join(1, 6), join(0, 6))
	refuses(t, a, api.ErrRange, join(2, 5), join(-1, 5), join(0, 7), join(0, -1), join(2, 0), join(math.MaxInt, 5), join(0, math.MinInt), join(9, 9), join(1<<32, 5), join(0, 1<<32+5))
	does(t, a, join(1, 5))
	chain(t, a, 1, 5, bricks(1), bricks(2, 5))
	none := newAdmin(t, 2)
	refuses(t, none, api.ErrRange, join(0, 0), join(0, 2))
}

// A chain may have more bricks than it can be made of: the chapter bounds neither Order nor Repair.
func TestJoinMany(t *testing.T) {
	a := behind(t, 16, made(0, 1, 2, 3, 4, 5, 6, 7))
	for b := 8; b < 16; b++ {
		does(t, a, join(0, b))
	}
	chain(t, a, 0, 9, bricks(0, 1, 2, 3, 4, 5, 6, 7), bricks(8, 9, 10, 11, 12, 13, 14, 15))
	for b := 15; b >= 8; b-- {
		does(t, a, repaired(b, 24-b))
	}
	chain(t, a, 0, 17, bricks(0, 1, 2, 3, 4, 5, 6, 7, 15, 14, 13, 12, 11, 10, 9, 8), nil)
}

// Promise 18.1: CLeave lets go a brick that is repaired, or down outside of the Order, or not the only one in it.
func TestLeave(t *testing.T) {
	a := behind(t, 6, made(0, 1, 2), join(0, 3), join(0, 4), join(0, 5))
	does(t, a, leave(4))
	chain(t, a, 0, 5, bricks(0, 1, 2), bricks(3, 5))
	does(t, a, leave(0))
	chain(t, a, 0, 6, bricks(1, 2), bricks(3, 5))
	does(t, a, down(2), leave(2))
	chain(t, a, 0, 8, bricks(1), bricks(3, 5))
	refuses(t, a, api.ErrPlan, leave(0), leave(2), leave(4), leave(1))
	does(t, a, down(1))
	refuses(t, a, api.ErrPlan, leave(1))
	does(t, a, down(3), leave(3), leave(5))
	chain(t, a, 0, 12, bricks(1), nil)
	for b := range 6 {
		if b != 1 {
			brick(t, a, b, api.BFree, -1)
		}
	}
	brick(t, a, 1, api.BDown, 0)
	refuses(t, a, api.ErrRange, leave(6), leave(-1), leave(math.MinInt), leave(math.MaxInt), leave(1<<32))
	does(t, a, up(1), join(0, 2), repaired(2, 14), leave(1))
	chain(t, a, 0, 16, bricks(2), nil)
}

// Promise 18.1: CDown takes a brick out of its chain's lists, but the only one in the Order stays there.
func TestDown(t *testing.T) {
	a := behind(t, 7, made(0, 1), made(2), join(0, 3), join(0, 4), join(1, 5))
	does(t, a, down(3))
	chain(t, a, 0, 4, bricks(0, 1), bricks(4))
	brick(t, a, 3, api.BDown, 0)
	does(t, a, down(0))
	chain(t, a, 0, 5, bricks(1), bricks(4))
	brick(t, a, 0, api.BDown, 0)
	does(t, a, down(1))
	chain(t, a, 0, 6, bricks(1), bricks(4))
	brick(t, a, 1, api.BDown, 0)
	does(t, a, down(4), down(2), down(5))
	chain(t, a, 0, 7, bricks(1), nil)
	chain(t, a, 1, 4, bricks(2), nil)
	brick(t, a, 4, api.BDown, 0)
	brick(t, a, 5, api.BDown, 1)
	refuses(t, a, api.ErrPlan, down(0), down(1), down(2), down(3), down(4), down(5), down(6))
	refuses(t, a, api.ErrRange, down(7), down(-1), down(math.MinInt), down(math.MaxInt), down(1<<32))
}

// Promise 18.1: CUp lets the only one in an Order go on, and any other one be the last that is repaired.
func TestUp(t *testing.T) {
	a := behind(t, 6, made(0, 1, 2), join(0, 3), join(0, 4), down(3), down(1), down(2), down(0))
	chain(t, a, 0, 7, bricks(0), bricks(4))
	does(t, a, up(2))
	chain(t, a, 0, 8, bricks(0), bricks(4, 2))
	brick(t, a, 2, api.BRepair, 0)
	does(t, a, up(3))
	chain(t, a, 0, 9, bricks(0), bricks(4, 2, 3))
	brick(t, a, 3, api.BRepair, 0)
	does(t, a, up(0))
	chain(t, a, 0, 10, bricks(0), bricks(4, 2, 3))
	brick(t, a, 0, api.BOk, 0)
	does(t, a, up(1))
	chain(t, a, 0, 11, bricks(0), bricks(4, 2, 3, 1))
	refuses(t, a, api.ErrPlan, up(0), up(1), up(2), up(3), up(4), up(5))
	refuses(t, a, api.ErrRange, up(6), up(-1), up(math.MinInt), up(math.MaxInt), up(1<<32))
}

// Promise 18.1: CRepaired puts a brick at the tail, if it was repaired in this epoch, from a head that is not down.
func TestRepaired(t *testing.T) {
	a := behind(t, 6, made(0, 1), made(5), join(0, 2), join(0, 3), join(0, 4))
	refuses(t, a, api.ErrStale, repaired(3, 3), repaired(3, 5), repaired(3, 0), repaired(3, -4), repaired(3, math.MinInt), repaired(3, math.MaxInt), repaired(3, 1), repaired(3, 1<<32+4), repaired(2, api.MaxEpoch+1))
	does(t, a, repaired(3, 4))
	chain(t, a, 0, 5, bricks(0, 1, 3), bricks(2, 4))
	brick(t, a, 3, api.BOk, 0)
	refuses(t, a, api.ErrStale, repaired(4, 4), repaired(2, 4))
	does(t, a, repaired(4, 5), repaired(2, 6))
	chain(t, a, 0, 7, bricks(0, 1, 3, 4, 2), nil)
	does(t, a, down(1))
	refuses(t, a, api.ErrPlan, repaired(0, 8), repaired(1, 8), repaired(3, 8), repaired(5, 1), repaired(0, 7), repaired(1, 7))
	refuses(t, a, api.ErrRange, repaired(6, 8), repaired(-1, 8), repaired(math.MinInt, 8), repaired(math.MaxInt, 0), repaired(1<<32, 8))
	does(t, a, leave(4))
	refuses(t, a, api.ErrPlan, repaired(4, 9), repaired(4, 8), repaired(4, 0))
}

// Promise 18.1: none can have been repaired from a head that is down, whatever epoch is told.
func TestRepairedFromNobody(t *testing.T) {
	a := behind(t, 3, made(0), join(0, 1), down(0))
	refuses(t, a, api.ErrPlan, repaired(1, 3), repaired(1, 2), repaired(1, 0))
	does(t, a, up(0))
	refuses(t, a, api.ErrStale, repaired(1, 3))
	does(t, a, repaired(1, 4))
	chain(t, a, 0, 5, bricks(0, 1), nil)
}

// Promise 18.1: what happens to one chain leaves the others, and a brick may go from chain to chain.
func TestChainsApart(t *testing.T) {
	a := behind(t, 8, made(0, 1), made(2, 3), made(4, 5))
	does(t, a, down(2), leave(5), join(0, 5), repaired(5, 2), up(2), down(0), leave(0), join(2, 0))
	chain(t, a, 0, 5, bricks(1, 5), nil)
	chain(t, a, 1, 3, bricks(3), bricks(2))
	chain(t, a, 2, 3, bricks(4), bricks(0))
	brick(t, a, 0, api.BRepair, 2)
	brick(t, a, 5, api.BOk, 0)
	lies(t, a, 3, 16, 16, 16)
}
