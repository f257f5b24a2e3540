package net_test

import (
	"math"
	"slices"
	"testing"

	"skylark/api"
	"skylark/net"
)

// newNet is a net of a number of nodes that may be.
func newNet(t *testing.T, nodes int) *net.Net {
	t.Helper()
	n, e := net.New(nodes)
	if n == nil || e != api.OK {
		t.Fatal(nodes, n, e)
	}
	return n
}

// told fails unless a call answered that.
func told(t *testing.T, got, want api.Errno) {
	t.Helper()
	if got != want {
		t.Errorf("%v, not %v", got, want)
	}
}

// number fails unless a call answered that number and that error.
func number(t *testing.T, got int, e api.Errno, want int, wantE api.Errno) {
	t.Helper()
	if got != want || e != wantE {
		t.Errorf("%v %v, not %v %v", got, e, want, wantE)
	}
}

// sends fails unless a letter is sent, and has that number.
func sends(t *testing.T, n *net.Net, from, to int, body string, want int) {
	t.Helper()
	id, e := n.Send(from, to, body)
	number(t, id, e, want, api.OK)
}

// copies fails unless a letter is copied, and its copy has that number.
func copies(t *testing.T, n *net.Net, id, want int) {
	t.Helper()
	got, e := n.Copy(id)
	number(t, got, e, want, api.OK)
}

// takes fails unless a letter can be taken, and is that one.
func takes(t *testing.T, n *net.Net, want net.Letter) {
	t.Helper()
	if l, e := n.Take(want.Id); l != want || e != api.OK {
		t.Errorf("%v %v, not %v", l, e, want)
	}
}

// refuses fails unless a letter can't be taken, for that reason.
func refuses(t *testing.T, n *net.Net, id int, want api.Errno) {
	t.Helper()
	if l, e := n.Take(id); l != (net.Letter{}) || e != want {
		t.Errorf("%v %v, not %v", l, e, want)
	}
}

// holds fails unless just these letters are on their way, in this order.
func holds(t *testing.T, n *net.Net, want ...net.Letter) {
	t.Helper()
	if got := n.Letters(); !slices.Equal(got, want) {
		t.Errorf("%v, not %v", got, want)
	}
}

// state is all that a net of so many nodes tells: its letters, and of each two nodes, in both orders, whether they are parted.
type state struct {
	letters []net.Letter
	parted  []bool
}

func stateOf(t *testing.T, n *net.Net, nodes int) state {
	t.Helper()
	s := state{letters: n.Letters()}
	for a := range nodes {
		for b := range nodes {
			p, e := n.Parted(a, b)
			told(t, e, api.OK)
			s.parted = append(s.parted, p)
		}
	}
	return s
}

func (s state) is(other state) bool {
	return slices.Equal(s.letters, other.letters) && slices.Equal(s.parted, other.parted)
}

// outside are numbers that are none of so many nodes: next to them on either side, and far off.
func outside(nodes int) []int {
	return []int{-1, nodes, nodes + 1, api.MaxNodes, api.MaxNodes + 1, math.MinInt, math.MaxInt, -nodes}
}
