package admin_test

import (
	"math"
	"strings"
	"testing"

	"skylark/admin"
	"skylark/api"
)

// full is an admin in which each kind of command may come, and those commands.
func full(t *testing.T) (*admin.Admin, []api.Cmd) {
	t.Helper()
	a := behind(t, 9, made(0, 1), made(2), join(0, 3), join(0, 4), down(4))
	return a, []api.Cmd{made(5, 6), join(1, 5), leave(3), down(3), up(4), repaired(3, 4), changed(0, 1), moved("k"), done()}
}

// Promise 18.1: each kind may have what it names.
func TestNamed(t *testing.T) {
	for i := range api.CDone {
		a, cmds := full(t)
		if i >= api.CMoved-1 {
			does(t, a, changed(1, 0))
		}
		does(t, a, cmds[i])
	}
}

// named are the parts of a command that each kind names, as the chapter lists them.
func named() map[int]string {
	return map[int]string{
		api.CMake: "List", api.CJoin: "Chain Brick", api.CLeave: "Brick", api.CDown: "Brick", api.CUp: "Brick",
		api.CRepaired: "Brick Epoch", api.CChange: "List", api.CMoved: "Cursor", api.CDone: "",
	}
}

// set are ways to set each part of a command.
func set() map[string][]func(c *api.Cmd) {
	return map[string][]func(c *api.Cmd){
		"Chain":  {func(c *api.Cmd) { c.Chain = 1 }, func(c *api.Cmd) { c.Chain = -1 }, func(c *api.Cmd) { c.Chain = 1 << 32 }},
		"Brick":  {func(c *api.Cmd) { c.Brick = 1 }, func(c *api.Cmd) { c.Brick = -1 }, func(c *api.Cmd) { c.Brick = math.MinInt }},
		"Epoch":  {func(c *api.Cmd) { c.Epoch = 1 }, func(c *api.Cmd) { c.Epoch = -1 }, func(c *api.Cmd) { c.Epoch = 4 }},
		"List":   {func(c *api.Cmd) { c.List = bricks(0) }, func(c *api.Cmd) { c.List = bricks(5, 6) }, func(c *api.Cmd) { c.List = make([]int, 5000) }},
		"Cursor": {func(c *api.Cmd) { c.Cursor = "k" }, func(c *api.Cmd) { c.Cursor = "\x00" }, func(c *api.Cmd) { c.Cursor = long(5000) }},
	}
}

// Promise 18.1: ErrBad, if something is set that the kind does not name, whatever else is wrong.
func TestNotNamed(t *testing.T) {
	a, cmds := full(t)
	going, _ := full(t)
	does(t, going, changed(1, 1))
	fresh := newAdmin(t, 1)
	for _, c := range cmds {
		for part, all := range set() {
			for _, do := range all {
				x := c
				do(&x)
				for _, a := range []*admin.Admin{a, going, fresh} {
					if !strings.Contains(named()[c.Kind], part) {
						refuses(t, a, api.ErrBad, x)
					}
				}
			}
		}
	}
}

// Promise 18.1: ErrBad, if the kind is none, whatever else is set.
func TestNoKind(t *testing.T) {
	a, cmds := full(t)
	for _, kind := range []int{0, -1, 10, 11, 257, 1<<32 + 1, math.MinInt, math.MaxInt} {
		refuses(t, a, api.ErrBad, api.Cmd{Kind: kind}, api.Cmd{Kind: kind, Brick: 99})
		for _, c := range cmds {
			c.Kind = kind
			refuses(t, a, api.ErrBad, c)
		}
	}
}

// Promise 18.1: of more that is wrong the first is told: ErrBad, ErrRange, ErrPlan, ErrLong.
func TestFirstWrong(t *testing.T) {
	a, _ := full(t)
	refuses(t, a, api.ErrBad,
		api.Cmd{Kind: api.CMake, List: bricks(99), Chain: 1}, api.Cmd{Kind: api.CJoin, Chain: 9, Brick: 9, Epoch: 1}, api.Cmd{Kind: api.CLeave, Brick: 99, Cursor: "x"},
		api.Cmd{Kind: api.CRepaired, Brick: 99, Chain: 1}, api.Cmd{Kind: api.CRepaired, Brick: 3, Epoch: 3, Chain: 1}, api.Cmd{Kind: api.CMoved, Cursor: long(65), Brick: 1},
		api.Cmd{Kind: api.CChange, List: bricks(1), Cursor: "x"}, api.Cmd{Kind: api.CDone, List: bricks(0)})
	refuses(t, a, api.ErrRange, made(0, 0, 99), join(5, 0), join(0, 99), repaired(99, 3), made(99, 0, 0, 0, 0, 0, 0, 0, 0, 0))
	refuses(t, a, api.ErrPlan, join(0, 0), repaired(0, 3), repaired(5, 0), moved(long(65)))
	does(t, a, changed(1, 1))
	refuses(t, a, api.ErrPlan, made(0), changed(1, 2, 3))
	refuses(t, a, api.ErrLong, made(5))
}

// Promise 18.1: what a kind names may be zero, too: that is the first brick and the first chain.
func TestNamedZero(t *testing.T) {
	a := behind(t, 2, made(0))
	does(t, a, api.Cmd{Kind: api.CDown}, api.Cmd{Kind: api.CUp})
	refuses(t, a, api.ErrPlan, api.Cmd{Kind: api.CMake}, api.Cmd{Kind: api.CJoin}, api.Cmd{Kind: api.CLeave}, api.Cmd{Kind: api.CUp}, api.Cmd{Kind: api.CRepaired}, api.Cmd{Kind: api.CMoved}, api.Cmd{Kind: api.CDone})
	refuses(t, a, api.ErrLayout, api.Cmd{Kind: api.CChange})
	does(t, a, join(0, 1), repaired(1, 4), api.Cmd{Kind: api.CLeave}, api.Cmd{Kind: api.CJoin})
	refuses(t, a, api.ErrStale, api.Cmd{Kind: api.CRepaired})
	chain(t, a, 0, 7, bricks(1), bricks(0))
}
