package trio_test

import (
	"math"
	"testing"

	"skylark/api"
	"skylark/raft"
	"skylark/trio"
)

// fresh is a node with which nothing has happened.
var fresh = view{raft.RFollow, 0, -1, 0, true}

// The chapter's example.
func TestExample(t *testing.T) {
	x := newTrio(t, 3, 2)
	rounds(t, x, 2)
	is(t, x, 0, view{raft.RLead, 1, 0, 1, true})
	proposes(t, x, 0, "a", 2, api.OK)
	rounds(t, x, 2)
	for id := range 3 {
		took(t, x, id, entry(1, ""), entry(1, "a"))
	}
}

// Promise 17.1: New refuses what is outside of its numbers; else all nodes are up, know nobody, took nothing, and no letters are on their way.
func TestNew(t *testing.T) {
	for _, nodes := range []int{math.MinInt, -1, 0, 1, 2, 9, 10, 16, 17, math.MaxInt} {
		for _, patience := range []int{math.MinInt, -1, 0, 1, 2, 1000, 1001, math.MaxInt} {
			x, e := trio.New(nodes, patience)
			if nodes < 1 || nodes > 9 || patience < 1 || patience > 1000 {
				if x != nil || e != api.ErrRange {
					t.Error(nodes, patience, x, e)
				}
				continue
			}
			if x == nil || e != api.OK {
				t.Fatal(nodes, patience, x, e)
			}
			for id := range nodes {
				is(t, x, id, fresh)
				took(t, x, id)
			}
			onWay(t, x, 0)
		}
	}
}

// Promise 17.1: all nodes are of the patience that was given, and there are as many as were.
func TestPatience(t *testing.T) {
	for _, nodes := range []int{1, 2, 5, 9} {
		for _, patience := range []int{1, 3, 1000} {
			for id := range nodes {
				x := newTrio(t, nodes, patience)
				ticks(t, x, id, patience+id-1)
				is(t, x, id, fresh)
				onWay(t, x, 0)
				ticks(t, x, id, 1)
				if v := seen(x, id); v.role == raft.RFollow || v.term != 1 {
					t.Error(nodes, patience, id, v)
				}
				onWay(t, x, nodes-1)
			}
		}
	}
}

// Promise 17.1: ErrAct, if the kind is none, whatever else is told; nothing happens.
func TestNoAct(t *testing.T) {
	x := asking(t)
	for _, kind := range []int{-1, 10, 11, 100, math.MinInt, math.MaxInt} {
		if n, e := x.Do(api.Act{Kind: kind, N: 1, I: 1, Data: "a", Draws: []int{1}}); n != 0 || e != api.ErrAct {
			t.Error(kind, n, e)
		}
	}
	goesDown(t, x, 1, 2)
	if n, e := x.Do(api.Act{Kind: 10, N: 1}); n != 0 || e != api.ErrAct {
		t.Error(n, e)
	}
	is(t, x, 0, view{raft.RAsk, 1, -1, 0, true})
	onWay(t, x, 2)
}

// Promise 17.1: nodes are numbers modulo how many there are, below 0 too, in acts and in what is asked.
func TestNodesWrap(t *testing.T) {
	for _, n := range []int{0, 3, 6, -3, -6, 3 << 40, -3 << 40, math.MinInt + 2, math.MaxInt - 1} {
		x := newTrio(t, 3, 2)
		ticks(t, x, n, 2)
		for _, same := range []int{0, 3, -3, n} {
			is(t, x, same, view{raft.RAsk, 1, -1, 0, true})
			is(t, x, same+1, fresh)
		}
		is(t, x, 1, fresh)
		is(t, x, 2, fresh)
		rounds(t, x, 1)
		proposes(t, x, n, "a", 2, api.OK)
		took(t, x, n, entry(1, ""))
		took(t, x, n+1)
		does(t, x, api.Act{Kind: api.TCrash, N: n})
		took(t, x, n)
		is(t, x, n, view{raft.RFollow, 1, -1, 0, true})
	}
	for _, n := range []int{-1, 2, -4, math.MinInt + 1, math.MaxInt - 2} {
		x := newTrio(t, 3, 2)
		ticks(t, x, n, 4)
		is(t, x, 2, view{raft.RAsk, 1, -1, 0, true})
		is(t, x, n, view{raft.RAsk, 1, -1, 0, true})
	}
}

// Acts: TTick is a tick of the node alone; a node that leads sends entries by it.
func TestTick(t *testing.T) {
	x := led(t, 3, 2)
	ticks(t, x, 0, 3)
	onWay(t, x, 6)
	ticks(t, x, 1, 2)
	is(t, x, 1, view{raft.RFollow, 1, 0, 1, true})
	ticks(t, x, 1, 1)
	is(t, x, 1, view{raft.RAsk, 2, -1, 1, true})
	is(t, x, 2, view{raft.RFollow, 1, 0, 1, true})
	onWay(t, x, 8)
}

// Acts: TDeliver takes the letter of a number modulo how many are on their way, in order, and lets it be heard; N says nothing.
func TestDeliver(t *testing.T) {
	for _, x := range []struct{ i, node int }{{0, 1}, {1, 2}, {2, 1}, {3, 2}, {-1, 2}, {-2, 1}, {math.MaxInt, 2}, {math.MinInt, 1}} {
		for n := range 3 {
			y := asking(t)
			does(t, y, api.Act{Kind: api.TDeliver, N: n, I: x.i})
			is(t, y, x.node, view{raft.RFollow, 1, -1, 0, true})
			is(t, y, 3-x.node, fresh)
			onWay(t, y, 2)
			// the vote stands behind the other letter
			delivers(t, y, 1)
			is(t, y, 0, view{raft.RLead, 1, 0, 0, true})
			onWay(t, y, 3)
			// the other letter, then the entries to 1 and to 2
			delivers(t, y, 1)
			is(t, y, 1, view{raft.RFollow, 1, 0, 0, true})
			onWay(t, y, 3)
			delivers(t, y, 2)
			is(t, y, 0, view{raft.RLead, 1, 0, 1, true})
			took(t, y, 0, entry(1, ""))
			took(t, y, 1)
		}
	}
}

// Acts: without letters on their way there is nothing to deliver, to lose or to copy.
func TestNoLetters(t *testing.T) {
	x := led(t, 3, 2)
	for _, kind := range []int{api.TDeliver, api.TLose, api.TCopy} {
		for _, i := range []int{0, 1, -1, math.MinInt, math.MaxInt} {
			does(t, x, api.Act{Kind: kind, I: i})
			onWay(t, x, 0)
			is(t, x, 0, view{raft.RLead, 1, 0, 1, true})
		}
	}
}

// Acts: TLose loses just the letter, be its nodes parted or not.
func TestLose(t *testing.T) {
	for _, x := range []struct{ i, left int }{{0, 2}, {1, 1}, {5, 1}, {-1, 1}, {-2, 2}} {
		for _, parted := range []bool{false, true} {
			y := asking(t)
			if parted {
				does(t, y, api.Act{Kind: api.TPart, N: 0, I: 3 - x.left})
			}
			does(t, y, api.Act{Kind: api.TLose, I: x.i})
			onWay(t, y, 1)
			delivers(t, y, 0)
			is(t, y, x.left, view{raft.RFollow, 1, -1, 0, true})
			is(t, y, 3-x.left, fresh)
		}
	}
}

// Acts: TCopy puts one like the letter behind all others, though its nodes are parted.
func TestCopy(t *testing.T) {
	for _, x := range []struct{ i, node int }{{0, 1}, {1, 2}, {4, 1}, {-1, 2}} {
		y := asking(t)
		does(t, y, api.Act{Kind: api.TPart, N: 0, I: x.node})
		does(t, y, api.Act{Kind: api.TCopy, I: x.i})
		does(t, y, api.Act{Kind: api.TJoin, N: 0, I: x.node})
		onWay(t, y, 3)
		delivers(t, y, 2)
		is(t, y, x.node, view{raft.RFollow, 1, -1, 0, true})
		is(t, y, 3-x.node, fresh)
		onWay(t, y, 3)
		// both copies are heard: the node votes again for the one that has its vote
		delivers(t, y, x.node-1)
		onWay(t, y, 3)
	}
}

// Words: what the net refuses is lost: no more letters than api.MaxItems are on their way, whoever wants to send.
func TestNetFull(t *testing.T) {
	x := asking(t)
	for range api.MaxItems - 2 {
		does(t, x, api.Act{Kind: api.TCopy, I: 0})
	}
	onWay(t, x, api.MaxItems)
	does(t, x, api.Act{Kind: api.TCopy, I: 1})
	ticks(t, x, 0, 2)
	is(t, x, 0, view{raft.RAsk, 2, -1, 0, true})
	onWay(t, x, api.MaxItems)
	does(t, x, api.Act{Kind: api.TLose, I: 1})
	ticks(t, x, 0, 2)
	onWay(t, x, api.MaxItems)
	// the one of the term 3 that was not lost goes to the node 1
	delivers(t, x, -1)
	is(t, x, 1, view{raft.RFollow, 3, -1, 0, true})
	is(t, x, 2, fresh)
	onWay(t, x, api.MaxItems)
}

// Acts: between nodes that are parted a letter is not delivered, and waits; nodes wrap, either may be named first, a node is never parted from itself.
func TestPart(t *testing.T) {
	for _, p := range []struct{ n, i int }{{0, 1}, {1, 0}, {3, 4}, {-3, -2}, {math.MaxInt, -3}, {-5, math.MinInt + 2}} {
		for _, j := range []struct{ n, i int }{{0, 1}, {1, 0}, {-2, 6}} {
			x := asking(t)
			does(t, x, api.Act{Kind: api.TPart, N: p.n, I: p.i})
			does(t, x, api.Act{Kind: api.TPart, N: p.n, I: p.i})
			for range 3 {
				delivers(t, x, 0)
				is(t, x, 1, fresh)
				onWay(t, x, 2)
			}
			delivers(t, x, 1)
			is(t, x, 2, view{raft.RFollow, 1, -1, 0, true})
			does(t, x, api.Act{Kind: api.TJoin, N: 0, I: 2})
			does(t, x, api.Act{Kind: api.TJoin, N: 1, I: 2})
			delivers(t, x, 0)
			is(t, x, 1, fresh)
			does(t, x, api.Act{Kind: api.TJoin, N: j.n, I: j.i})
			delivers(t, x, 0)
			is(t, x, 1, view{raft.RFollow, 1, -1, 0, true})
		}
	}
}

// Acts: to part or to join a node and itself is nothing.
func TestPartSame(t *testing.T) {
	x := asking(t)
	for _, kind := range []int{api.TPart, api.TJoin} {
		for n := -3; n < 6; n++ {
			does(t, x, api.Act{Kind: kind, N: n, I: n + 3})
		}
	}
	rounds(t, x, 1)
	is(t, x, 0, view{raft.RLead, 1, 0, 1, true})
	does(t, x, api.Act{Kind: api.TPart, N: 0, I: 1})
	does(t, x, api.Act{Kind: api.TPart, N: 0, I: 2})
	does(t, x, api.Act{Kind: api.TJoin, N: 0, I: 0})
	proposes(t, x, 0, "a", 2, api.OK)
	rounds(t, x, 1)
	took(t, x, 0, entry(1, ""))
}

// Acts: nodes are parted and joined by the net, be they up or down.
func TestPartDown(t *testing.T) {
	for _, kind := range []int{api.TPart, api.TJoin} {
		x := newTrio(t, 2, 2)
		does(t, x, api.Act{Kind: api.TPart, N: 0, I: 1})
		goesDown(t, x, 1, 2)
		if kind == api.TJoin {
			does(t, x, api.Act{Kind: api.TJoin, N: 1, I: 0})
		} else {
			does(t, x, api.Act{Kind: api.TJoin, N: 0, I: 1})
			does(t, x, api.Act{Kind: api.TPart, N: 1, I: 0})
		}
		does(t, x, api.Act{Kind: api.TCrash, N: 1})
		rounds(t, x, 2)
		role := raft.RLead
		if kind == api.TPart {
			role = raft.RAsk
		}
		if v := seen(x, 0); v.role != role {
			t.Error(kind, v)
		}
	}
}
