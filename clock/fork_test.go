package clock_test

import (
	"testing"

	"skylark/api"
)

// Promise 4.2: a fork has the clock's nodes and times, be there one node or as many as may be.
func TestForkTimes(t *testing.T) {
	for _, nodes := range []int{1, 2, api.MaxNodes} {
		c := newClock(t, nodes, 3)
		for node := range nodes {
			steps(t, c, node, node+1, node+1, api.OK)
		}
		f := c.Fork()
		if f == nil || f == c {
			t.Fatal(nodes, f)
		}
		shows(t, f, times(t, c, nodes)...)
		if f.Apart() != nodes-1 {
			t.Error(nodes, f.Apart())
		}
	}
}

// Promise 4.2: a fork goes its own way: neither tells of what the other does.
func TestForkApart(t *testing.T) {
	c := newClock(t, 2, 3)
	steps(t, c, 0, 1, 1, api.OK)
	f := c.Fork()
	steps(t, c, 0, 4, 5, api.OK)
	shows(t, f, 1, 0)
	steps(t, f, 1, 8, 8, api.OK)
	shows(t, c, 5, 0)
	told(t, f.All(10), api.OK)
	shows(t, c, 5, 0)
	shows(t, f, 11, 18)
	told(t, c.All(api.MaxTicks-5), api.OK)
	shows(t, f, 11, 18)
	if c.Apart() != 5 || f.Apart() != 7 {
		t.Error(c.Apart(), f.Apart())
	}
}

// Promises 4.2 and 4.3: a fork draws what the clock would, from where the clock stands, and what one of them draws the other has still ahead.
func TestForkDraws(t *testing.T) {
	c, like := newClock(t, 1, 77), newClock(t, 1, 77)
	ahead := drawn(t, like, 12)
	draws(t, c, 1<<31, ahead[:4]...)
	f := c.Fork()
	draws(t, f, 1<<31, ahead[4:8]...)
	g := f.Fork()
	draws(t, c, 1<<31, ahead[4:]...)
	draws(t, g, 1<<31, ahead[8:]...)
	draws(t, f, 1<<31, ahead[8:]...)
}

// Promise 4.2: forking changes nothing of the clock.
func TestForkLeaves(t *testing.T) {
	c, like := newClock(t, 2, 5), newClock(t, 2, 5)
	steps(t, c, 1, 6, 6, api.OK)
	for range 3 {
		c.Fork()
		shows(t, c, 0, 6)
		draws(t, c, 1<<31, drawn(t, like, 1)...)
	}
}
