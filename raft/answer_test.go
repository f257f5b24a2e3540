package raft_test

import (
	"fmt"
	"testing"

	"skylark/api"
	"skylark/raft"
)

// Promise 16.3: match of who answered 1 is at least the number, next one behind match; nothing is sent by it; a lesser number that comes late changes nothing.
func TestAnswerTaken(t *testing.T) {
	n := leading(t, 4, newDisk(t, 1000))
	for i := range 3 {
		proposes(t, n, fmt.Sprint(i), i+2, api.OK)
	}
	all := []api.Entry{entry(1, ""), entry(1, "0"), entry(1, "1"), entry(1, "2")}
	n.Letters()
	for _, x := range []struct{ number, match int }{{0, 0}, {2, 2}, {1, 2}, {0, 2}, {3, 3}, {5, 3}, {1 << 30, 3}, {4, 4}, {3, 4}} {
		hears(t, n, 2, answer(1, 1, x.number))
		sends(t, n)
		is(t, n, raft.RLead, 1, 0, 0)
		prevTerm := 1
		if x.match == 0 {
			prevTerm = 0
		}
		ticks(t, n, 1)
		sends(t, n, to(1, give(1, 0, 0, 0, all...)), to(2, give(1, x.match, prevTerm, 0, all[x.match:]...)), to(3, give(1, 0, 0, 0, all...)))
	}
}

// Promise 16.3: next of who answered 0 is the least of next - 1 and the number and one, but at least 1; entries are sent to it alone.
func TestAnswerNotTaken(t *testing.T) {
	d := with(t, stand(1, -1), put(1, "1"), put(1, "2"), put(1, "3"), put(1, "4"), put(1, "5"))
	n := leading(t, 3, d)
	all := []api.Entry{entry(1, "1"), entry(1, "2"), entry(1, "3"), entry(1, "4"), entry(1, "5"), entry(2, "")}
	for _, x := range []struct{ number, next int }{{5, 5}, {9, 4}, {1 << 30, 3}, {1, 2}, {7, 1}, {7, 1}, {0, 1}} {
		hears(t, n, 2, answer(2, 0, x.number))
		prevTerm := 1
		if x.next == 1 {
			prevTerm = 0
		}
		sends(t, n, to(2, give(2, x.next-1, prevTerm, 0, all[x.next-1:]...)))
		ticks(t, n, 1)
		sends(t, n, to(1, give(2, 5, 1, 0, entry(2, ""))), to(2, give(2, x.next-1, prevTerm, 0, all[x.next-1:]...)))
	}
	hears(t, n, 1, answer(2, 0, 0))
	sends(t, n, to(1, give(2, 0, 0, 0, all...)))
}

// Promise 16.3: an answer 0 that comes late takes next back, but not match: the next answer 1 sets next behind it again.
func TestAnswerNotTakenLate(t *testing.T) {
	n := leading(t, 5, newDisk(t, 1000))
	proposes(t, n, "a", 2, api.OK)
	hears(t, n, 1, answer(1, 1, 2))
	n.Letters()
	hears(t, n, 1, answer(1, 0, 0))
	sends(t, n, to(1, give(1, 0, 0, 0, entry(1, ""), entry(1, "a"))))
	hears(t, n, 2, answer(1, 1, 2))
	is(t, n, raft.RLead, 1, 0, 2)
	n.Letters()
	hears(t, n, 1, answer(1, 1, 0))
	ticks(t, n, 1)
	if l := n.Letters(); l[0] != to(1, give(1, 2, 1, 2)) {
		t.Error(brief(l))
	}
}

// Promise 16.3: at most 8 entries go in one letter.
func TestEntriesSentAtMost(t *testing.T) {
	frames := []string{stand(1, -1)}
	var all []api.Entry
	for i := range 20 {
		all = append(all, entry(1, fmt.Sprint(i)))
		frames = append(frames, put(1, all[i].Data))
	}
	n := leading(t, 2, with(t, frames...))
	all = append(all, entry(2, ""))
	hears(t, n, 1, answer(2, 0, 0))
	sends(t, n, to(1, give(2, 0, 0, 0, all[:8]...)))
	hears(t, n, 1, answer(2, 1, 8))
	ticks(t, n, 1)
	sends(t, n, to(1, give(2, 8, 1, 0, all[8:16]...)))
	hears(t, n, 1, answer(2, 1, 13))
	ticks(t, n, 1)
	sends(t, n, to(1, give(2, 13, 1, 0, all[13:]...)))
	hears(t, n, 1, answer(2, 1, 12))
	hears(t, n, 1, answer(2, 1, 21))
	ticks(t, n, 1)
	sends(t, n, to(1, give(2, 21, 2, 21)))
}

// Promise 16.3: entries of the greatest Data go in one letter, too, and are heard.
func TestEntriesSentLong(t *testing.T) {
	frames := []string{stand(1, -1)}
	var all []api.Entry
	for range 9 {
		all = append(all, entry(1, long(4096)))
		frames = append(frames, put(1, long(4096)))
	}
	n := leading(t, 2, with(t, frames...))
	hears(t, n, 1, answer(2, 0, 0))
	body := give(2, 0, 0, 0, all[:8]...)
	sends(t, n, to(1, body))
	other := opened(t, 1, 2, 2, newDisk(t, api.MaxBytes))
	hears(t, other, 0, body)
	sends(t, other, to(0, answer(2, 1, 8)))
}

// Promise 16.3: committed is what more than half of all have, the leader's own log among them, in any order of answers.
func TestAnswersCommit(t *testing.T) {
	for nodes := 2; nodes <= api.MaxNodes; nodes++ {
		n := leading(t, nodes, newDisk(t, 1000))
		proposes(t, n, "a", 2, api.OK)
		for i := 1; i <= nodes/2; i++ {
			is(t, n, raft.RLead, 1, 0, 0)
			hears(t, n, i, answer(1, 1, 1+i%2))
		}
		committed := 1
		if nodes < 4 {
			committed = 2
		}
		is(t, n, raft.RLead, 1, 0, committed)
		for i := 1; i < nodes; i++ {
			hears(t, n, i, answer(1, 1, 2))
		}
		is(t, n, raft.RLead, 1, 0, 2)
		takes(t, n, 9, entry(1, ""), entry(1, "a"))
	}
}

// Promise 16.3: just an entry of the leader's own term is committed by how many have it; with it all ahead of it.
func TestAnswersCommitOwnTerm(t *testing.T) {
	n := leading(t, 3, with(t, stand(4, -1), put(2, "a"), put(4, "b")))
	hears(t, n, 1, answer(5, 1, 2))
	hears(t, n, 2, answer(5, 1, 2))
	is(t, n, raft.RLead, 5, 0, 0)
	takes(t, n, 9)
	hears(t, n, 2, answer(5, 1, 3))
	is(t, n, raft.RLead, 5, 0, 3)
	takes(t, n, 9, entry(2, "a"), entry(4, "b"), entry(5, ""))
}

// Promise 16.3: an answer of another term, or to one that does not lead, is passed over, but that a term above is turned to.
func TestAnswersPassedOver(t *testing.T) {
	n := leading(t, 3, with(t, stand(4, -1), put(4, "a")))
	for _, term := range []int{1, 4} {
		hears(t, n, 1, answer(term, 1, 2))
		hears(t, n, 1, answer(term, 0, 0))
		hears(t, n, 1, answer(5, 1, 3))
	}
	is(t, n, raft.RLead, 5, 0, 0)
	sends(t, n)
	ticks(t, n, 1)
	sends(t, n, to(1, give(5, 1, 4, 0, entry(5, ""))), to(2, give(5, 1, 4, 0, entry(5, ""))))
	hears(t, n, 2, answer(6, 1, 2))
	is(t, n, raft.RFollow, 6, -1, 0)
	for _, taken := range []int{0, 1} {
		hears(t, n, 1, answer(6, taken, 2))
	}
	is(t, n, raft.RFollow, 6, -1, 0)
	waits(t, n, 2)
	n.Letters()
	for _, taken := range []int{0, 1} {
		hears(t, n, 1, answer(7, taken, 2))
		hears(t, n, 2, answer(7, taken, 2))
	}
	is(t, n, raft.RAsk, 7, -1, 0)
	sends(t, n)
	proposes(t, n, "x", 0, api.ErrRole)
}

// Promise 16.2: a node that leads again knows nothing of what it knew of others when it led ahead.
func TestLeadsAgain(t *testing.T) {
	n := leading(t, 3, newDisk(t, 1000))
	hears(t, n, 1, answer(1, 1, 1))
	is(t, n, raft.RLead, 1, 0, 1)
	hears(t, n, 2, vote(2, 0))
	waits(t, n, 2)
	is(t, n, raft.RAsk, 3, -1, 1)
	n.Letters()
	hears(t, n, 2, vote(3, 1))
	is(t, n, raft.RLead, 3, 0, 1)
	sends(t, n, to(1, give(3, 1, 1, 1, entry(3, ""))), to(2, give(3, 1, 1, 1, entry(3, ""))))
	hears(t, n, 2, answer(3, 0, 0))
	sends(t, n, to(2, give(3, 0, 0, 1, entry(1, ""), entry(3, ""))))
	hears(t, n, 2, answer(3, 1, 1))
	is(t, n, raft.RLead, 3, 0, 1)
	hears(t, n, 2, answer(3, 1, 2))
	is(t, n, raft.RLead, 3, 0, 2)
}
