package raft_test

import (
	"testing"

	"skylark/api"
	"skylark/raft"
)

// Promise 16.3: entries of the node's term, or of one above: the node follows who sent them, takes them, and tells how far its log is as the leader's.
func TestEntries(t *testing.T) {
	a, b, c := entry(1, "a"), entry(3, "b"), entry(3, "c")
	d := newDisk(t, 1000)
	n := opened(t, 1, 3, 2, d)
	hears(t, n, 2, give(3, 0, 0, 0, a, b))
	sends(t, n, to(2, answer(3, 1, 2)))
	is(t, n, raft.RFollow, 3, 2, 0)
	onDisk(t, d, stand(3, -1), put(1, "a"), put(3, "b"))
	hears(t, n, 2, give(3, 2, 3, 1, c))
	sends(t, n, to(2, answer(3, 1, 3)))
	is(t, n, raft.RFollow, 3, 2, 1)
	hears(t, n, 2, give(3, 0, 0, 1, a))
	sends(t, n, to(2, answer(3, 1, 1)))
	has(t, d, 3, 3, -1, a, b, c)
	hears(t, n, 2, give(3, 3, 3, 3))
	sends(t, n, to(2, answer(3, 1, 3)))
	is(t, n, raft.RFollow, 3, 2, 3)
	takes(t, n, 9, a, b, c)
	onDisk(t, d, stand(3, -1), put(1, "a"), put(3, "b"), put(3, "c"))
}

// Promise 16.3: entries that are not as the leader's are taken away, on the disk too.
func TestEntriesInOthersPlace(t *testing.T) {
	d := with(t, stand(3, 0), put(1, "a"), put(2, "b"), put(2, "c"))
	n := opened(t, 1, 3, 2, d)
	hears(t, n, 2, give(4, 1, 1, 2, entry(4, "x")))
	sends(t, n, to(2, answer(4, 1, 2)))
	is(t, n, raft.RFollow, 4, 2, 2)
	takes(t, n, 9, entry(1, "a"), entry(4, "x"))
	onDisk(t, d, stand(3, 0), put(1, "a"), put(2, "b"), put(2, "c"), stand(4, -1), gone(2), put(4, "x"))
	has(t, d, 3, 4, -1, entry(1, "a"), entry(4, "x"))
}

// Promise 16.3: entries of a term that is over are answered by 0, the log's last number and the node's term, whatever they are; nothing is changed.
func TestEntriesOfOldTerm(t *testing.T) {
	d := with(t, stand(5, 0), put(1, "a"), put(4, "b"))
	n := opened(t, 1, 3, 2, d)
	ticks(t, n, 2)
	for _, body := range []string{give(4, 0, 0, 2), give(4, 2, 4, 2, entry(4, "c")), give(1, 9, 9, 9), give(4, 1, 1, 2, entry(2, "x"), entry(1, "y")), give(4, 1, 1, 2, entry(9, "x")), give(4, 2, 4, 0, entry(4, long(4097)))} {
		hears(t, n, 2, body)
		sends(t, n, to(2, answer(5, 0, 2)))
		is(t, n, raft.RFollow, 5, -1, 0)
	}
	onDisk(t, d, stand(5, 0), put(1, "a"), put(4, "b"))
	waits(t, n, 1)
}

// Promise 16.3: entries behind a number that the log has not, or has with another term, are answered by 0 and the log's last number; the node follows all the same.
func TestEntriesThatDoNotFit(t *testing.T) {
	for _, body := range []string{
		give(5, 3, 4, 2, entry(4, "c")), give(5, 3, 0, 2), give(5, 1<<30, 1<<30, 2), give(5, 2, 3, 2, entry(4, "c")), give(5, 2, 5, 2), give(5, 1, 2, 2), give(5, 0, 1, 2, entry(1, "a")), give(5, 1, 0, 2),
		give(5, 3, 4, 2, entry(4, "c"), entry(3, "d")), give(5, 2, 3, 2, entry(9, "c")), give(5, 3, 4, 2, entry(4, long(4097))),
	} {
		d := with(t, stand(5, 0), put(1, "a"), put(4, "b"))
		n := opened(t, 1, 3, 2, d)
		ticks(t, n, 2)
		hears(t, n, 2, body)
		sends(t, n, to(2, answer(5, 0, 2)))
		is(t, n, raft.RFollow, 5, 2, 0)
		onDisk(t, d, stand(5, 0), put(1, "a"), put(4, "b"))
		waits(t, n, 3)
	}
}

// Promise 16.3: entries that no log can have there are no peer's, and get no answer; nothing is taken.
func TestEntriesThatCannotBe(t *testing.T) {
	for _, entries := range [][]api.Entry{
		{entry(4, "c"), entry(3, "d")}, {entry(3, "c")}, {entry(1, "c")}, {entry(4, "c"), entry(6, "d")}, {entry(9, "c")}, {entry(api.MaxTerm, "c")}, {entry(4, long(4097))}, {entry(4, "c"), entry(5, long(5000))},
	} {
		d := with(t, stand(5, 0), put(1, "a"), put(4, "b"))
		n := opened(t, 1, 3, 2, d)
		refuses(t, n, 2, give(5, 2, 4, 2, entries...), api.ErrPeer)
		onDisk(t, d, stand(5, 0), put(1, "a"), put(4, "b"))
		if _, _, _, committed := n.State(); committed != 0 {
			t.Error(committed)
		}
		hears(t, n, 2, give(5, 2, 4, 2, entry(4, long(4096))))
		sends(t, n, to(2, answer(5, 1, 3)))
		is(t, n, raft.RFollow, 5, 2, 2)
	}
}

// Promise 16.3: the steps of entries are in order: by the time that they turn out to be none the term is turned to, the node follows who sent them, and waits 0.
func TestEntriesThatCannotBeAreBehindTheirTerm(t *testing.T) {
	d := with(t, stand(5, 0), put(1, "a"))
	n := opened(t, 1, 3, 2, d)
	ticks(t, n, 2)
	refuses(t, n, 2, give(6, 1, 1, 1, entry(7, "c")), api.ErrPeer)
	is(t, n, raft.RFollow, 6, 2, 0)
	onDisk(t, d, stand(5, 0), put(1, "a"), stand(6, -1))
	waits(t, n, 3)
}

// Promise 16.3: committed is at least the lesser one of what the letter tells and the number told, and never falls.
func TestEntriesCommit(t *testing.T) {
	a, b, c := entry(1, "a"), entry(1, "b"), entry(1, "c")
	n := opened(t, 1, 3, 2, newDisk(t, 1000))
	for _, x := range []struct {
		body string
		want int
	}{
		{give(1, 0, 0, 0, a, b, c), 0}, {give(1, 0, 0, 1), 0}, {give(1, 1, 1, 9), 1}, {give(1, 0, 0, 9, a, b), 2}, {give(1, 0, 0, 9, a), 2}, {give(1, 2, 1, 0, c), 2}, {give(1, 9, 1, 9), 2}, {give(1, 3, 2, 9), 2}, {give(1, 3, 1, 1<<30), 3}, {give(1, 3, 1, 1), 3},
	} {
		hears(t, n, 0, x.body)
		is(t, n, raft.RFollow, 1, 0, x.want)
	}
	takes(t, n, 9, a, b, c)
}

// Promise 16.3: one that asks, or leads, follows who sends entries of its term; one that leads is asked for nothing more.
func TestEntriesWhileAskingOrLeading(t *testing.T) {
	for _, isLeading := range []bool{false, true} {
		d := newDisk(t, 1000)
		n := opened(t, 0, 3, 2, d)
		ticks(t, n, 2)
		if isLeading {
			hears(t, n, 1, vote(1, 1))
		}
		ticks(t, n, 1)
		n.Letters()
		hears(t, n, 2, give(1, 0, 0, 0, entry(1, "x")))
		sends(t, n, to(2, answer(1, 1, 1)))
		is(t, n, raft.RFollow, 1, 2, 0)
		hears(t, n, 1, vote(1, 1))
		hears(t, n, 1, answer(1, 1, 1))
		hears(t, n, 1, answer(1, 0, 0))
		is(t, n, raft.RFollow, 1, 2, 0)
		sends(t, n)
		proposes(t, n, "a", 0, api.ErrRole)
		waits(t, n, 2)
	}
}

// Promise 16.3: entries let a node wait 0, also one that waits less than nothing, and also if they are not taken.
func TestEntriesWait(t *testing.T) {
	n := opened(t, 1, 3, 5, newDisk(t, 1000))
	waits(t, n, 6)
	hears(t, n, 0, vote(1, 0))
	hears(t, n, 0, give(1, 7, 1, 0))
	waits(t, n, 6)
	hears(t, n, 0, give(9, 0, 0, 0))
	ticks(t, n, 5)
	hears(t, n, 0, give(9, 0, 0, 0))
	ticks(t, n, 5)
	hears(t, n, 2, give(8, 0, 0, 0))
	waits(t, n, 1)
}
