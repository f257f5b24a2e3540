package clock_test

import (
	"math"
	"slices"
	"testing"

	"skylark/api"
	"skylark/clock"
)

// newClock is a clock of a number of nodes that may be.
func newClock(t *testing.T, nodes int, seed uint64) *clock.Clock {
	t.Helper()
	c, e := clock.New(nodes, seed)
	if c == nil || e != api.OK {
		t.Fatal(nodes, c, e)
	}
	return c
}

// told fails unless a call answered that.
func told(t *testing.T, got, want api.Errno) {
	t.Helper()
	if got != want {
		t.Errorf("%v, not %v", got, want)
	}
}

// number fails unless a call answered that number and that error.
func number(t *testing.T, got int, e api.Errno, want int, wantE api.Errno) {
	t.Helper()
	if got != want || e != wantE {
		t.Errorf("%v %v, not %v %v", got, e, want, wantE)
	}
}

// steps fails unless a step of a node's answers that.
func steps(t *testing.T, c *clock.Clock, node, n, want int, wantE api.Errno) {
	t.Helper()
	got, e := c.Step(node, n)
	number(t, got, e, want, wantE)
}

// draws fails unless numbers below n are drawn, and are these.
func draws(t *testing.T, c *clock.Clock, n int, want ...int) {
	t.Helper()
	for _, w := range want {
		got, e := c.Draw(n)
		number(t, got, e, w, api.OK)
	}
}

// times are what a clock of so many nodes tells of them.
func times(t *testing.T, c *clock.Clock, nodes int) []int {
	t.Helper()
	var all []int
	for node := range nodes {
		now, e := c.Now(node)
		told(t, e, api.OK)
		all = append(all, now)
	}
	return all
}

// shows fails unless a clock has just as many nodes as there are times, and they have these.
func shows(t *testing.T, c *clock.Clock, want ...int) {
	t.Helper()
	if got := times(t, c, len(want)); !slices.Equal(got, want) {
		t.Errorf("%v, not %v", got, want)
	}
	if _, e := c.Now(len(want)); e != api.ErrNode {
		t.Error(len(want), e)
	}
}

// drawn are the next so many numbers that are drawn below 2^31, the greatest that may be.
func drawn(t *testing.T, c *clock.Clock, many int) []int {
	t.Helper()
	var all []int
	for range many {
		x, e := c.Draw(1 << 31)
		told(t, e, api.OK)
		all = append(all, x)
	}
	return all
}

// outside are numbers that are none of so many nodes: next to them on either side, and far off.
func outside(nodes int) []int {
	return []int{-1, nodes, nodes + 1, api.MaxNodes, api.MaxNodes + 1, math.MinInt, math.MaxInt, -nodes}
}

// below are numbers below 0.
func below() []int {
	return []int{-1, -2, -api.MaxTicks, -1 << 40, math.MinInt + 1, math.MinInt}
}
