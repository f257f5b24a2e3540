package trio_test

import (
	"testing"

	"skylark/api"
	"skylark/raft"
)

// Acts: in TRound all nodes tick, and then letters are carried till none is on its way, those that they bring forth too.
func TestRound(t *testing.T) {
	x := newTrio(t, 3, 2)
	rounds(t, x, 1)
	for id := range 3 {
		is(t, x, id, fresh)
	}
	rounds(t, x, 1)
	is(t, x, 0, view{raft.RLead, 1, 0, 1, true})
	is(t, x, 1, view{raft.RFollow, 1, 0, 0, true})
	is(t, x, 2, view{raft.RFollow, 1, 0, 0, true})
	onWay(t, x, 0)
	rounds(t, x, 1)
	is(t, x, 1, view{raft.RFollow, 1, 0, 1, true})
	// N, I, Data and Draws say nothing
	does(t, x, api.Act{Kind: api.TRound, N: 2, I: 7, Data: "a", Draws: []int{3}})
	is(t, x, 2, view{raft.RFollow, 1, 0, 1, true})
}

// Acts: nodes tick by numbers ahead of any letter: of two that ask in one round the lower one's letters come first.
func TestRoundOrder(t *testing.T) {
	x := newTrio(t, 3, 2)
	ticks(t, x, 2, 3)
	ticks(t, x, 1, 2)
	rounds(t, x, 1)
	is(t, x, 1, view{raft.RLead, 1, 1, 1, true})
	is(t, x, 2, view{raft.RFollow, 1, 1, 0, true})
	took(t, x, 1, entry(1, ""))
	// letters that were on their way ahead of the round come first of all
	x = newTrio(t, 3, 2)
	ticks(t, x, 2, 4)
	ticks(t, x, 1, 2)
	rounds(t, x, 1)
	is(t, x, 2, view{raft.RLead, 1, 2, 1, true})
	is(t, x, 1, view{raft.RFollow, 1, 2, 0, true})
}

// Acts: in TRound letters between parted nodes are lost.
func TestRoundParted(t *testing.T) {
	x := asking(t)
	does(t, x, api.Act{Kind: api.TPart, N: 1, I: 0})
	does(t, x, api.Act{Kind: api.TPart, N: 2, I: 0})
	rounds(t, x, 1)
	onWay(t, x, 0)
	is(t, x, 1, fresh)
	is(t, x, 2, fresh)
	does(t, x, api.Act{Kind: api.TJoin, N: 1, I: 0})
	does(t, x, api.Act{Kind: api.TPart, N: 1, I: 2})
	rounds(t, x, 1)
	is(t, x, 0, view{raft.RLead, 2, 0, 1, true})
	is(t, x, 1, view{raft.RFollow, 2, 0, 0, true})
	is(t, x, 2, fresh)
}

// Acts: a node that is down neither ticks nor hears in a round; its letters that are on their way are carried.
func TestRoundDown(t *testing.T) {
	x := asking(t)
	does(t, x, api.Act{Kind: api.TFuse, N: 0})
	ticks(t, x, 0, 2)
	down := view{raft.RAsk, 1, -1, 0, false}
	is(t, x, 0, down)
	rounds(t, x, 1)
	onWay(t, x, 0)
	is(t, x, 0, down)
	is(t, x, 1, view{raft.RFollow, 1, -1, 0, true})
	rounds(t, x, 3)
	is(t, x, 0, down)
	is(t, x, 1, view{raft.RLead, 2, 1, 1, true})
	is(t, x, 2, view{raft.RFollow, 2, 1, 0, true})
}

// Acts: a round carries at most 2000 letters, those that are lost among them; the others wait.
func TestRoundEnds(t *testing.T) {
	for more := range 2 {
		x := asking(t)
		does(t, x, api.Act{Kind: api.TLose, I: 1})
		for range 1999 + more {
			does(t, x, api.Act{Kind: api.TCopy})
		}
		onWay(t, x, 2000+more)
		does(t, x, api.Act{Kind: api.TFuse, N: 0})
		rounds(t, x, 1)
		// each is heard, and a vote sent back behind all others
		onWay(t, x, 2000+more)
		is(t, x, 0, view{raft.RAsk, 1, -1, 0, true})
		is(t, x, 1, view{raft.RFollow, 1, -1, 0, true})
		rounds(t, x, 1)
		// node 0 asks again, and goes down; its letters are not sent
		if up := seen(x, 0).up; up {
			t.Error(more)
		}
		onWay(t, x, 2*more)
	}
	x := asking(t)
	for range 2998 {
		does(t, x, api.Act{Kind: api.TCopy})
	}
	does(t, x, api.Act{Kind: api.TPart, N: 0, I: 1})
	does(t, x, api.Act{Kind: api.TPart, N: 0, I: 2})
	rounds(t, x, 1)
	onWay(t, x, 1000)
	is(t, x, 1, fresh)
	is(t, x, 2, fresh)
}

// Acts: letters that are carried make room for others, one by one.
func TestRoundFull(t *testing.T) {
	x := asking(t)
	for range api.MaxItems - 2 {
		does(t, x, api.Act{Kind: api.TCopy, I: 1})
	}
	onWay(t, x, api.MaxItems)
	rounds(t, x, 1)
	onWay(t, x, api.MaxItems)
	is(t, x, 1, view{raft.RFollow, 1, -1, 0, true})
	is(t, x, 2, view{raft.RFollow, 1, -1, 0, true})
	is(t, x, 0, view{raft.RAsk, 1, -1, 0, true})
}
