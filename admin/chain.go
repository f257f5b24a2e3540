package admin

import (
	"slices"

	"skylark/api"
)

// mostMade is how many bricks a chain is made of at most.
const mostMade = 8

// makeChain makes a chain of bricks that are free, and lays keys on it.
func (a *Admin) makeChain(c api.Cmd) api.Errno {
	if len(c.List) < 1 || len(c.List) > mostMade || isOneTwice(c.List) {
		return api.ErrPlan
	}
	if slices.ContainsFunc(c.List, func(b int) bool { return a.bricks[b].state != api.BFree }) {
		return api.ErrPlan
	}
	if len(a.chains) == api.MaxChains || a.isChanging || a.layout.Version == api.MaxEpoch {
		return api.ErrLong
	}
	for _, b := range c.List {
		a.bricks[b] = brick{api.BOk, len(a.chains)}
	}
	a.chains = append(a.chains, api.Chain{Epoch: 1, Order: slices.Clone(c.List)})
	a.layChain()
	return api.OK
}

// join lets a free brick be repaired by a chain.
func (a *Admin) join(c api.Cmd) api.Errno {
	b := &a.bricks[c.Brick]
	if b.state != api.BFree {
		return api.ErrPlan
	}
	return a.turn(c.Chain, func(x *api.Chain) {
		*b = brick{api.BRepair, c.Chain}
		x.Repair = append(x.Repair, c.Brick)
	})
}

// leave lets a brick be free, unless its chain would have nobody left that has what it has.
func (a *Admin) leave(c api.Cmd) api.Errno {
	b := &a.bricks[c.Brick]
	if b.state == api.BFree || isAllOf(a.chains[b.chain], c.Brick) {
		return api.ErrPlan
	}
	return a.turn(b.chain, func(x *api.Chain) {
		*b = free()
		takeOut(x, c.Brick)
	})
}

// goDown takes a brick out of its chain's lists. The only one in its Order stays there: nobody else has what it has.
func (a *Admin) goDown(c api.Cmd) api.Errno {
	b := &a.bricks[c.Brick]
	if b.state != api.BOk && b.state != api.BRepair {
		return api.ErrPlan
	}
	return a.turn(b.chain, func(x *api.Chain) {
		b.state = api.BDown
		if !isAllOf(*x, c.Brick) {
			takeOut(x, c.Brick)
		}
	})
}

// comeUp lets a brick go on, if its chain waited for it; others may lack something by now, and are repaired.
func (a *Admin) comeUp(c api.Cmd) api.Errno {
	b := &a.bricks[c.Brick]
	if b.state != api.BDown {
		return api.ErrPlan
	}
	return a.turn(b.chain, func(x *api.Chain) {
		if slices.Contains(x.Order, c.Brick) {
			b.state = api.BOk
			return
		}
		b.state = api.BRepair
		x.Repair = append(x.Repair, c.Brick)
	})
}

// takeRepaired puts a brick at its chain's tail. What it was given in another epoch may not be all that the chain has now.
func (a *Admin) takeRepaired(c api.Cmd) api.Errno {
	b := &a.bricks[c.Brick]
	if b.state != api.BRepair || a.isHeadDown(b.chain) {
		return api.ErrPlan
	}
	if c.Epoch != a.chains[b.chain].Epoch {
		return api.ErrStale
	}
	return a.turn(b.chain, func(x *api.Chain) {
		b.state = api.BOk
		takeOut(x, c.Brick)
		x.Order = append(x.Order, c.Brick)
	})
}

// turn changes a chain, which is of the next epoch then.
func (a *Admin) turn(chain int, change func(x *api.Chain)) api.Errno {
	x := &a.chains[chain]
	if x.Epoch == api.MaxEpoch {
		return api.ErrLong
	}
	change(x)
	x.Epoch++
	return api.OK
}

func (a *Admin) isHeadDown(chain int) bool {
	return a.bricks[a.chains[chain].Order[0]].state == api.BDown
}

// isAllOf tells whether a brick is the only one in a chain's Order.
func isAllOf(c api.Chain, b int) bool {
	return len(c.Order) == 1 && c.Order[0] == b
}

// takeOut takes a brick out of the lists of a chain.
func takeOut(c *api.Chain, b int) {
	isIt := func(x int) bool { return x == b }
	c.Order = slices.DeleteFunc(c.Order, isIt)
	c.Repair = slices.DeleteFunc(c.Repair, isIt)
}

// isOneTwice tells whether a list has a number twice.
func isOneTwice(list []int) bool {
	for i, x := range list {
		if slices.Contains(list[:i], x) {
			return true
		}
	}
	return false
}

// copiedChain answers a chain that shares no memory with the one given.
func copiedChain(c api.Chain) api.Chain {
	return api.Chain{Epoch: c.Epoch, Order: slices.Clone(c.Order), Repair: slices.Clone(c.Repair)}
}
