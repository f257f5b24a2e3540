package raft_test

import (
	"testing"

	"skylark/api"
	"skylark/raft"
)

// The chapter's example.
func TestExample(t *testing.T) {
	n := opened(t, 0, 3, 2, newDisk(t, 1000))
	ticks(t, n, 1)
	is(t, n, raft.RFollow, 0, -1, 0)
	ticks(t, n, 1)
	sends(t, n, to(1, ask(1, 0, 0)), to(2, ask(1, 0, 0)))
	hears(t, n, 1, vote(1, 1))
	is(t, n, raft.RLead, 1, 0, 0)
	sends(t, n, to(1, give(1, 0, 0, 0, entry(1, ""))), to(2, give(1, 0, 0, 0, entry(1, ""))))
	hears(t, n, 1, answer(1, 1, 1))
	is(t, n, raft.RLead, 1, 0, 1)
	sends(t, n)
}

// Promise 16.3: who asks gets a vote if the term is the node's, or becomes it; that is on the disk ahead of the letter.
func TestAskedInNewTerm(t *testing.T) {
	d := newDisk(t, 1000)
	n := opened(t, 1, 3, 2, d)
	hears(t, n, 0, ask(1, 0, 0))
	sends(t, n, to(0, vote(1, 1)))
	is(t, n, raft.RFollow, 1, -1, 0)
	onDisk(t, d, stand(1, -1), stand(1, 0))
	hears(t, n, 2, ask(4, 0, 0))
	sends(t, n, to(2, vote(4, 1)))
	is(t, n, raft.RFollow, 4, -1, 0)
	onDisk(t, d, stand(1, -1), stand(1, 0), stand(4, -1), stand(4, 2))
}

// Promise 16.3: one vote a term: the same node may ask again, another one gets none; so it is behind a crash.
func TestAskedTwice(t *testing.T) {
	d := newDisk(t, 1000)
	n := opened(t, 1, 3, 2, d)
	for range 2 {
		for range 2 {
			hears(t, n, 0, ask(3, 0, 0))
			sends(t, n, to(0, vote(3, 1)))
			hears(t, n, 2, ask(3, 9, 9))
			sends(t, n, to(2, vote(3, 0)))
			is(t, n, raft.RFollow, 3, -1, 0)
		}
		onDisk(t, d, stand(3, -1), stand(3, 0))
		must(t, d.Crash([]int{-1}))
		n = opened(t, 1, 3, 2, d)
	}
}

// Promise 16.3: one that asks, or leads, has voted for itself; in a term above it votes, and follows.
func TestAskedWhileAskingOrLeading(t *testing.T) {
	for _, isLeading := range []bool{false, true} {
		d := newDisk(t, 1000)
		n := opened(t, 0, 3, 2, d)
		ticks(t, n, 2)
		role, leader := raft.RAsk, -1
		if isLeading {
			hears(t, n, 1, vote(1, 1))
			role, leader = raft.RLead, 0
		}
		n.Letters()
		hears(t, n, 2, ask(1, 9, 1))
		sends(t, n, to(2, vote(1, 0)))
		is(t, n, role, 1, leader, 0)
		hears(t, n, 2, ask(2, 9, 1))
		sends(t, n, to(2, vote(2, 1)))
		is(t, n, raft.RFollow, 2, -1, 0)
		proposes(t, n, "a", 0, api.ErrRole)
	}
}

// Promise 16.3: who asks in a term that is over gets none, and is told the node's term.
func TestAskedInOldTerm(t *testing.T) {
	d := with(t, stand(5, -1))
	n := opened(t, 1, 3, 2, d)
	for _, term := range []int{1, 4} {
		hears(t, n, 0, ask(term, 9, 9))
		sends(t, n, to(0, vote(5, 0)))
	}
	is(t, n, raft.RFollow, 5, -1, 0)
	onDisk(t, d, stand(5, -1))
	hears(t, n, 0, ask(5, 0, 0))
	sends(t, n, to(0, vote(5, 1)))
}

// Promise 16.3: the log that is told must be at least as far: a greater term, or the same and no lesser number; the term is turned to all the same.
func TestAskedByLogs(t *testing.T) {
	for _, x := range []struct{ last, lastTerm, given int }{
		{2, 3, 1}, {3, 3, 1}, {1, 4, 1}, {0, 4, 1}, {1 << 30, 3, 1}, {1, 3, 0}, {0, 3, 0}, {9, 2, 0}, {2, 2, 0}, {9, 0, 0}, {0, 0, 0}, {1 << 30, 2, 0},
	} {
		d := with(t, stand(5, -1), put(1, "a"), put(3, "b"))
		n := opened(t, 1, 3, 2, d)
		hears(t, n, 2, ask(6, x.last, x.lastTerm))
		sends(t, n, to(2, vote(6, x.given)))
		is(t, n, raft.RFollow, 6, -1, 0)
		cast := -1
		if x.given == 1 {
			cast = 2
		}
		has(t, d, 3, 6, cast, entry(1, "a"), entry(3, "b"))
		if x.given == 0 {
			hears(t, n, 0, ask(6, 2, 3))
			sends(t, n, to(0, vote(6, 1)))
		}
	}
}

// Promise 16.3: a node waits 0 when it gave a vote, each time, and goes on waiting when it gave none.
func TestAskedWaits(t *testing.T) {
	n := opened(t, 1, 3, 5, newDisk(t, 1000))
	ticks(t, n, 4)
	hears(t, n, 0, ask(2, 0, 0))
	ticks(t, n, 4)
	hears(t, n, 0, ask(2, 0, 0))
	ticks(t, n, 4)
	hears(t, n, 2, ask(2, 9, 9))
	hears(t, n, 0, ask(1, 9, 9))
	waits(t, n, 2)
	n = opened(t, 1, 3, 5, with(t, stand(1, -1), put(1, "a")))
	ticks(t, n, 4)
	hears(t, n, 0, ask(2, 0, 0))
	waits(t, n, 2)
}

// Promise 16.3: more than half of all nodes must have voted for one that asks, each counted once.
func TestVotesChoose(t *testing.T) {
	for nodes := 2; nodes <= api.MaxNodes; nodes++ {
		n := opened(t, 0, nodes, 2, newDisk(t, 1000))
		ticks(t, n, 2)
		for from := 1; 2*(from+1) <= nodes; from++ {
			for range nodes {
				hears(t, n, from, vote(1, 1))
			}
			is(t, n, raft.RAsk, 1, -1, 0)
		}
		hears(t, n, nodes-1, vote(1, 1))
		is(t, n, raft.RLead, 1, 0, 0)
	}
}

// Promise 16.3: of a vote of another term, or of a node that does not ask, nothing comes, but that a term above is turned to.
func TestVotesPassedOver(t *testing.T) {
	n := opened(t, 0, 3, 2, with(t, stand(3, 0)))
	for _, given := range []int{0, 1} {
		hears(t, n, 1, vote(3, given))
		hears(t, n, 1, vote(2, given))
		is(t, n, raft.RFollow, 3, -1, 0)
	}
	waits(t, n, 2)
	n.Letters()
	for _, term := range []int{1, 3} {
		hears(t, n, 1, vote(term, 1))
		hears(t, n, 2, vote(term, 0))
		is(t, n, raft.RAsk, 4, -1, 0)
	}
	waits(t, n, 2)
	hears(t, n, 1, vote(5, 1))
	is(t, n, raft.RLead, 5, 0, 0)
	n.Letters()
	hears(t, n, 2, vote(5, 1))
	hears(t, n, 2, vote(5, 0))
	is(t, n, raft.RLead, 5, 0, 0)
	sends(t, n)
	hears(t, n, 2, vote(9, 1))
	is(t, n, raft.RFollow, 9, -1, 0)
	hears(t, n, 1, vote(9, 1))
	hears(t, n, 2, vote(9, 1))
	is(t, n, raft.RFollow, 9, -1, 0)
	sends(t, n)
}

// Promise 16.3: a node that was not given a vote waits less than nothing; it still counts those that it gets.
func TestVoteNotGiven(t *testing.T) {
	for _, x := range []struct{ id, nodes, patience int }{{0, 3, 2}, {1, 3, 2}, {2, 5, 7}, {0, 2, 1}} {
		n := opened(t, x.id, x.nodes, x.patience, newDisk(t, 1000))
		ticks(t, n, x.patience+x.id)
		other := (x.id + 1) % x.nodes
		hears(t, n, other, vote(1, 0))
		is(t, n, raft.RAsk, 1, -1, 0)
		waits(t, n, x.patience+x.nodes+x.patience+x.id)
		is(t, n, raft.RAsk, 2, -1, 0)
		hears(t, n, other, vote(2, 0))
		ticks(t, n, 3)
		hears(t, n, other, vote(2, 0))
		waits(t, n, x.patience+x.nodes+x.patience+x.id)
	}
	n := opened(t, 0, 3, 2, newDisk(t, 1000))
	ticks(t, n, 2)
	hears(t, n, 1, vote(1, 0))
	hears(t, n, 2, vote(1, 1))
	is(t, n, raft.RLead, 1, 0, 0)
}

// Promise 16.3: to begin to lead, an entry without Data is appended behind what the log has, and entries from there on are sent to all others.
func TestBeginsToLead(t *testing.T) {
	d := with(t, stand(4, 0), put(2, "a"), put(4, "b"))
	n := opened(t, 0, 3, 2, d)
	ticks(t, n, 2)
	n.Letters()
	hears(t, n, 2, vote(5, 1))
	is(t, n, raft.RLead, 5, 0, 0)
	sends(t, n, to(1, give(5, 2, 4, 0, entry(5, ""))), to(2, give(5, 2, 4, 0, entry(5, ""))))
	onDisk(t, d, stand(4, 0), put(2, "a"), put(4, "b"), stand(5, -1), stand(5, 0), put(5, ""))
	takes(t, n, 9)
}
