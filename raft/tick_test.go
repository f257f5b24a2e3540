package raft_test

import (
	"testing"

	"skylark/api"
	"skylark/raft"
)

// Promise 16.2: a node asks at the tick that makes those it waited patience + id, whatever its number and patience, and again as many ticks behind.
func TestTickAsks(t *testing.T) {
	for _, x := range []struct{ id, nodes, patience int }{{0, 2, 1}, {0, 3, 2}, {1, 3, 2}, {2, 3, 2}, {2, 3, 1}, {15, api.MaxNodes, 1}, {4, 5, 1000}, {1, 2, 7}} {
		d := newDisk(t, 1000)
		n := opened(t, x.id, x.nodes, x.patience, d)
		for term := 1; term <= 3; term++ {
			waits(t, n, x.patience+x.id)
			is(t, n, raft.RAsk, term, -1, 0)
			var want []api.Letter
			for i := range x.nodes {
				if i != x.id {
					want = append(want, to(i, ask(term, 0, 0)))
				}
			}
			sends(t, n, want...)
			has(t, d, x.nodes, term, x.id)
		}
		onDisk(t, d, stand(1, -1), stand(1, x.id), stand(2, -1), stand(2, x.id), stand(3, -1), stand(3, x.id))
	}
}

// Promise 16.2: one that asks tells how far its log is, and goes on from its ballot's term, whomever it voted for there.
func TestTickAsksWithLog(t *testing.T) {
	begun := []string{stand(6, 2), put(2, "a"), put(5, "b")}
	d := with(t, begun...)
	n := opened(t, 1, 3, 3, d)
	waits(t, n, 4)
	is(t, n, raft.RAsk, 7, -1, 0)
	sends(t, n, to(0, ask(7, 2, 5)), to(2, ask(7, 2, 5)))
	onDisk(t, d, begun[0], begun[1], begun[2], stand(7, -1), stand(7, 1))
}

// Promise 16.2: a node that followed somebody and asks now knows no leader.
func TestTickLetsLeaderGo(t *testing.T) {
	n := opened(t, 1, 3, 3, newDisk(t, 1000))
	hears(t, n, 2, give(4, 0, 0, 1, entry(4, "a")))
	is(t, n, raft.RFollow, 4, 2, 1)
	waits(t, n, 4)
	is(t, n, raft.RAsk, 5, -1, 1)
}

// Promise 16.2: just itself has voted for a node that asks again: what it got in another term counts no more.
func TestTickForgetsVotes(t *testing.T) {
	n := opened(t, 0, 5, 2, newDisk(t, 1000))
	ticks(t, n, 2)
	hears(t, n, 1, vote(1, 1))
	ticks(t, n, 2)
	is(t, n, raft.RAsk, 2, -1, 0)
	hears(t, n, 1, vote(1, 1))
	hears(t, n, 2, vote(2, 1))
	is(t, n, raft.RAsk, 2, -1, 0)
	hears(t, n, 1, vote(2, 1))
	is(t, n, raft.RLead, 2, 0, 0)
}

// Promises 16.2 and 16.4: the only node leads at once, and what it has is committed at once, with what it has from other terms.
func TestOnlyNode(t *testing.T) {
	d := with(t, stand(3, -1), put(1, "a"), put(3, "b"))
	n := opened(t, 0, 1, 2, d)
	ticks(t, n, 1)
	is(t, n, raft.RFollow, 3, -1, 0)
	takes(t, n, 9)
	ticks(t, n, 1)
	is(t, n, raft.RLead, 4, 0, 3)
	proposes(t, n, "c", 4, api.OK)
	is(t, n, raft.RLead, 4, 0, 4)
	takes(t, n, 9, entry(1, "a"), entry(3, "b"), entry(4, ""), entry(4, "c"))
	ticks(t, n, 9)
	is(t, n, raft.RLead, 4, 0, 4)
	sends(t, n)
	has(t, d, 1, 4, 0, entry(1, "a"), entry(3, "b"), entry(4, ""), entry(4, "c"))
	for _, from := range []int{-1, 0, 1, 2} {
		refuses(t, n, from, ask(9, 9, 9), api.ErrPeer)
	}
	is(t, n, raft.RLead, 4, 0, 4)
}

// Promise 16.2: one that leads sends entries to all others at each tick, by numbers, and never asks.
func TestTickLeads(t *testing.T) {
	n := leading(t, 4, newDisk(t, 1000))
	all := give(1, 0, 0, 0, entry(1, ""))
	for range 20 {
		ticks(t, n, 1)
		sends(t, n, to(1, all), to(2, all), to(3, all))
		is(t, n, raft.RLead, 1, 0, 0)
	}
	hears(t, n, 2, answer(1, 1, 1))
	ticks(t, n, 1)
	sends(t, n, to(1, all), to(2, give(1, 1, 1, 0)), to(3, all))
	hears(t, n, 3, answer(1, 1, 1))
	all = give(1, 0, 0, 1, entry(1, ""))
	ticks(t, n, 1)
	sends(t, n, to(1, all), to(2, give(1, 1, 1, 1)), to(3, give(1, 1, 1, 1)))
}

// Promise 16.2: what a node that leads had waited ahead of that is still there when it leads no more.
func TestTickBehindLeading(t *testing.T) {
	n := opened(t, 0, 3, 5, newDisk(t, 1000))
	waits(t, n, 5)
	ticks(t, n, 3)
	hears(t, n, 1, vote(1, 1))
	ticks(t, n, 50)
	is(t, n, raft.RLead, 1, 0, 0)
	hears(t, n, 1, vote(2, 0))
	is(t, n, raft.RFollow, 2, -1, 0)
	waits(t, n, 2)
	is(t, n, raft.RAsk, 3, -1, 0)
}

// Promise 16.2: behind the last term there is none: what chapter 15 refuses is told, and nothing is asked.
func TestTickLastTerm(t *testing.T) {
	d := with(t, stand(api.MaxTerm-1, 0))
	n := opened(t, 0, 2, 1, d)
	ticks(t, n, 1)
	is(t, n, raft.RAsk, api.MaxTerm, -1, 0)
	sends(t, n, to(1, ask(api.MaxTerm, 0, 0)))
	told(t, n.Tick(), api.ErrRange)
	sends(t, n)
	is(t, n, raft.RAsk, api.MaxTerm, -1, 0)
	has(t, d, 2, api.MaxTerm, 0)
}
