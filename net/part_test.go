package net_test

import (
	"testing"

	"skylark/api"
	"skylark/net"
)

// partedNow fails unless just these nodes, in either order, are parted.
func partedNow(t *testing.T, n *net.Net, nodes int, want ...[2]int) {
	t.Helper()
	parted := map[[2]int]int{}
	for _, p := range want {
		parted[p], parted[[2]int{p[1], p[0]}] = 1, 1
	}
	for a := range nodes {
		for b := range nodes {
			if p, e := n.Parted(a, b); p != (parted[[2]int{a, b}] == 1) || e != api.OK {
				t.Error(a, b, p, e)
			}
		}
	}
}

// Promise 3.3: each two nodes are parted and joined, in either order, and no others with them.
func TestPartEach(t *testing.T) {
	for _, nodes := range []int{2, 3, api.MaxNodes} {
		n := newNet(t, nodes)
		for a := range nodes {
			for b := range nodes {
				if a == b {
					continue
				}
				told(t, n.Part(a, b), api.OK)
				partedNow(t, n, nodes, [2]int{a, b})
				told(t, n.Join(b, a), api.OK)
				partedNow(t, n, nodes)
				told(t, n.Part(a, b), api.OK)
				told(t, n.Join(a, b), api.OK)
				partedNow(t, n, nodes)
			}
		}
	}
}

// Promise 3.3: nodes that are parted may be parted again, in either order, and one Join joins them; nodes that are not may be joined.
func TestPartAgain(t *testing.T) {
	n := newNet(t, 4)
	told(t, n.Join(2, 1), api.OK)
	partedNow(t, n, 4)
	told(t, n.Part(1, 2), api.OK)
	told(t, n.Part(2, 1), api.OK)
	told(t, n.Part(1, 2), api.OK)
	partedNow(t, n, 4, [2]int{1, 2})
	told(t, n.Part(2, 3), api.OK)
	told(t, n.Part(0, 2), api.OK)
	told(t, n.Join(1, 3), api.OK)
	partedNow(t, n, 4, [2]int{1, 2}, [2]int{2, 3}, [2]int{0, 2})
	told(t, n.Join(2, 1), api.OK)
	partedNow(t, n, 4, [2]int{2, 3}, [2]int{0, 2})
	told(t, n.Join(1, 2), api.OK)
	partedNow(t, n, 4, [2]int{2, 3}, [2]int{0, 2})
}

// Promise 3.3: all may be parted from all, and be joined one by one.
func TestPartAll(t *testing.T) {
	n := newNet(t, api.MaxNodes)
	var all [][2]int
	for a := range api.MaxNodes {
		for b := range a {
			all = append(all, [2]int{a, b})
			told(t, n.Part(a, b), api.OK)
		}
	}
	partedNow(t, n, api.MaxNodes, all...)
	for len(all) > 0 {
		told(t, n.Join(all[0][1], all[0][0]), api.OK)
		all = all[1:]
		partedNow(t, n, api.MaxNodes, all...)
	}
}

// Promise 3.3: a node is never parted from itself; a node outside is told ahead of that.
func TestPartFromItself(t *testing.T) {
	for _, nodes := range []int{1, 2, api.MaxNodes} {
		n := newNet(t, nodes)
		for a := range nodes {
			told(t, n.Part(a, a), api.ErrShape)
			told(t, n.Join(a, a), api.OK)
			partedNow(t, n, nodes)
			sends(t, n, a, a, "x", a)
			takes(t, n, net.Letter{Id: a, From: a, To: a, Body: "x"})
		}
		for _, bad := range outside(nodes) {
			told(t, n.Part(bad, bad), api.ErrNode)
		}
	}
	n := newNet(t, 2)
	told(t, n.Part(0, 1), api.OK)
	told(t, n.Part(1, 1), api.ErrShape)
	told(t, n.Join(1, 1), api.OK)
	partedNow(t, n, 2, [2]int{0, 1})
}

// Promises 3.2 and 3.4: letters between parted nodes, both ways, wait where they stand, and can be taken when the nodes are joined; all others can be taken meanwhile.
func TestPartedWait(t *testing.T) {
	n := newNet(t, 3)
	there, back, own, other := net.Letter{Id: 0, From: 0, To: 1, Body: "a"}, net.Letter{Id: 1, From: 1, To: 0, Body: "b"}, net.Letter{Id: 2, From: 1, To: 1, Body: "c"}, net.Letter{Id: 3, From: 1, To: 2, Body: "d"}
	sent := net.Letter{Id: 4, From: 0, To: 1, Body: "e"}
	for _, l := range []net.Letter{there, back, own, other} {
		sends(t, n, l.From, l.To, l.Body, l.Id)
	}
	told(t, n.Part(1, 0), api.OK)
	sends(t, n, sent.From, sent.To, sent.Body, sent.Id)
	for range 2 {
		for _, id := range []int{0, 1, 4} {
			refuses(t, n, id, api.ErrShape)
		}
		holds(t, n, there, back, own, other, sent)
	}
	takes(t, n, other)
	takes(t, n, own)
	holds(t, n, there, back, sent)
	told(t, n.Part(1, 2), api.OK)
	told(t, n.Join(1, 2), api.OK)
	refuses(t, n, 0, api.ErrShape)
	refuses(t, n, 3, api.ErrNone)
	told(t, n.Join(0, 1), api.OK)
	for _, l := range []net.Letter{sent, there, back} {
		takes(t, n, l)
		refuses(t, n, l.Id, api.ErrNone)
	}
	holds(t, n)
}

// Promise 3.2: letters between parted nodes can be lost, copied and dropped as others can.
func TestPartedLoseCopyDrop(t *testing.T) {
	n := newNet(t, 3)
	told(t, n.Part(0, 1), api.OK)
	sends(t, n, 0, 1, "a", 0)
	sends(t, n, 1, 0, "b", 1)
	copies(t, n, 0, 2)
	refuses(t, n, 2, api.ErrShape)
	told(t, n.Lose(0), api.OK)
	holds(t, n, net.Letter{Id: 1, From: 1, To: 0, Body: "b"}, net.Letter{Id: 2, From: 0, To: 1, Body: "a"})
	k, e := n.Drop(2)
	number(t, k, e, 0, api.OK)
	k, e = n.Drop(1)
	number(t, k, e, 2, api.OK)
	holds(t, n)
	partedNow(t, n, 3, [2]int{0, 1})
}

// Promise 3.3: taking, losing, copying and dropping letters parts and joins none, and parting and joining loses no letter.
func TestPartAndLettersApart(t *testing.T) {
	n := newNet(t, 3)
	told(t, n.Part(2, 0), api.OK)
	for i := range 4 {
		sends(t, n, i%3, 1, "x", i)
	}
	all := n.Letters()
	told(t, n.Part(0, 1), api.OK)
	holds(t, n, all...)
	told(t, n.Join(1, 0), api.OK)
	holds(t, n, all...)
	takes(t, n, all[1])
	told(t, n.Lose(0), api.OK)
	copies(t, n, 2, 4)
	n.Drop(2)
	partedNow(t, n, 3, [2]int{0, 2})
}
