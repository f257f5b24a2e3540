package clock_test

import (
	"math"
	"testing"

	"skylark/api"
	"skylark/clock"
)

// Promise 4.1: a clock has from 1 to api.MaxNodes nodes, whose times are 0 at first.
func TestNew(t *testing.T) {
	for nodes := 1; nodes <= api.MaxNodes; nodes++ {
		for _, seed := range []uint64{0, 1, math.MaxUint64} {
			c := newClock(t, nodes, seed)
			shows(t, c, make([]int, nodes)...)
			if c.Apart() != 0 {
				t.Error(nodes, c.Apart())
			}
		}
	}
	for _, nodes := range []int{0, -1, api.MaxNodes + 1, api.MaxNodes * 2, math.MinInt, math.MaxInt} {
		if c, e := clock.New(nodes, 7); c != nil || e != api.ErrRange {
			t.Error(nodes, c, e)
		}
	}
}

// Promise 4.1: each node has a time of its own; a step lets it go on, be it by 0, and answers what it is.
func TestStep(t *testing.T) {
	c := newClock(t, 3, 0)
	steps(t, c, 1, 5, 5, api.OK)
	shows(t, c, 0, 5, 0)
	steps(t, c, 1, 0, 5, api.OK)
	steps(t, c, 0, 0, 0, api.OK)
	shows(t, c, 0, 5, 0)
	steps(t, c, 1, 7, 12, api.OK)
	steps(t, c, 2, 1, 1, api.OK)
	steps(t, c, 0, 100, 100, api.OK)
	shows(t, c, 100, 12, 1)
}

// Promise 4.1: a time comes to api.MaxTicks, by one step or by more, and not above; there a step of 0 is one still.
func TestStepMost(t *testing.T) {
	c := newClock(t, 2, 0)
	steps(t, c, 0, api.MaxTicks, api.MaxTicks, api.OK)
	steps(t, c, 1, api.MaxTicks-1, api.MaxTicks-1, api.OK)
	steps(t, c, 1, 2, 0, api.ErrLong)
	steps(t, c, 1, 1, api.MaxTicks, api.OK)
	for node := range 2 {
		for _, n := range []int{1, 2, api.MaxTicks, 1 << 40, math.MaxInt - api.MaxTicks, math.MaxInt - api.MaxTicks + 1, math.MaxInt - 1, math.MaxInt} {
			steps(t, c, node, n, 0, api.ErrLong)
		}
		steps(t, c, node, 0, api.MaxTicks, api.OK)
	}
	shows(t, c, api.MaxTicks, api.MaxTicks)
	fresh := newClock(t, 1, 0)
	for _, n := range []int{api.MaxTicks + 1, math.MaxInt} {
		steps(t, fresh, 0, n, 0, api.ErrLong)
	}
	shows(t, fresh, 0)
}

// Promise 4.1: a node that there is not is told by Now and by Step, by Step ahead of a number that may not be.
func TestNoNode(t *testing.T) {
	for _, nodes := range []int{1, 2, api.MaxNodes} {
		c := newClock(t, nodes, 0)
		for _, bad := range outside(nodes) {
			now, e := c.Now(bad)
			number(t, now, e, 0, api.ErrNode)
			for _, n := range []int{0, 1, -1, api.MaxTicks + 1, math.MinInt, math.MaxInt} {
				steps(t, c, bad, n, 0, api.ErrNode)
			}
		}
		shows(t, c, make([]int, nodes)...)
	}
}

// Promise 4.1: a step by less than 0 is refused, and changes nothing.
func TestStepBelow(t *testing.T) {
	c := newClock(t, 2, 0)
	steps(t, c, 0, 9, 9, api.OK)
	steps(t, c, 1, api.MaxTicks, api.MaxTicks, api.OK)
	for _, n := range below() {
		steps(t, c, 0, n, 0, api.ErrRange)
		steps(t, c, 1, n, 0, api.ErrRange)
	}
	shows(t, c, 9, api.MaxTicks)
}

// Promise 4.1: All lets each time go on, each from where it is, be it by 0.
func TestAll(t *testing.T) {
	for _, nodes := range []int{1, 2, api.MaxNodes} {
		c := newClock(t, nodes, 0)
		want := make([]int, nodes)
		for node := range nodes {
			want[node] = node*node + 3
			steps(t, c, node, node*node, node*node, api.OK)
		}
		told(t, c.All(3), api.OK)
		shows(t, c, want...)
		told(t, c.All(0), api.OK)
		shows(t, c, want...)
	}
}

// Promise 4.1: All is refused if one time alone would be above api.MaxTicks, whichever it is, and then none goes on.
func TestAllMost(t *testing.T) {
	for late := range 3 {
		c := newClock(t, 3, 0)
		want := []int{4, 4, 4}
		want[late] = api.MaxTicks - 1
		for node, time := range want {
			steps(t, c, node, time, time, api.OK)
		}
		for _, n := range []int{2, api.MaxTicks, math.MaxInt - api.MaxTicks + 2, math.MaxInt} {
			told(t, c.All(n), api.ErrLong)
		}
		shows(t, c, want...)
		told(t, c.All(1), api.OK)
		told(t, c.All(1), api.ErrLong)
		told(t, c.All(0), api.OK)
		for node := range want {
			want[node]++
		}
		shows(t, c, want...)
	}
	c := newClock(t, 2, 0)
	told(t, c.All(api.MaxTicks+1), api.ErrLong)
	told(t, c.All(api.MaxTicks), api.OK)
	shows(t, c, api.MaxTicks, api.MaxTicks)
}

// Promise 4.1: All by less than 0 is refused, and changes nothing.
func TestAllBelow(t *testing.T) {
	c := newClock(t, 2, 0)
	steps(t, c, 0, api.MaxTicks, api.MaxTicks, api.OK)
	steps(t, c, 1, 2, 2, api.OK)
	for _, n := range below() {
		told(t, c.All(n), api.ErrRange)
	}
	shows(t, c, api.MaxTicks, 2)
}

// Promise 4.1: Apart is the greatest time less the least, wherever they stand.
func TestApart(t *testing.T) {
	for _, x := range []struct {
		times []int
		want  int
	}{
		{[]int{7}, 0}, {[]int{3, 3}, 0}, {[]int{0, 5}, 5}, {[]int{5, 0}, 5}, {[]int{4, 9, 6}, 5}, {[]int{9, 6, 4}, 5}, {[]int{6, 4, 9}, 5},
		{[]int{0, api.MaxTicks, 1}, api.MaxTicks}, {[]int{api.MaxTicks, api.MaxTicks}, 0}, {[]int{2, 1, 0, 1}, 2},
	} {
		c := newClock(t, len(x.times), 0)
		for node, time := range x.times {
			steps(t, c, node, time, time, api.OK)
		}
		if got := c.Apart(); got != x.want {
			t.Error(x.times, got)
		}
		c.All(1)
		if got := c.Apart(); got != x.want {
			t.Error(x.times, got)
		}
		shows(t, c, times(t, c, len(x.times))...)
	}
}
