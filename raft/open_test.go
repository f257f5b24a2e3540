package raft_test

import (
	"math"
	"testing"

	"skylark/api"
	"skylark/raft"
)

// Promise 16.1: what Open refuses, and what it tells first; a disk that is looked at in vain stays as it is.
func TestOpenRefuses(t *testing.T) {
	for _, x := range []struct {
		id, nodes, patience int
		want                api.Errno
	}{
		{0, 1, 1, api.OK}, {0, 3, 1000, api.OK}, {2, 3, 1, api.OK}, {15, api.MaxNodes, 2, api.OK}, {0, api.MaxNodes, 2, api.OK},
		{-1, 3, 2, api.ErrRange}, {3, 3, 2, api.ErrRange}, {4, 3, 2, api.ErrRange}, {math.MinInt, 3, 2, api.ErrRange}, {math.MaxInt, 3, 2, api.ErrRange},
		{0, 0, 2, api.ErrRange}, {0, -1, 2, api.ErrRange}, {-1, 0, 2, api.ErrRange}, {-2, -1, 2, api.ErrRange}, {0, math.MinInt, 2, api.ErrRange},
		{0, 3, 0, api.ErrRange}, {0, 3, -1, api.ErrRange}, {0, 3, 1001, api.ErrRange}, {0, 3, math.MinInt, api.ErrRange}, {0, 3, math.MaxInt, api.ErrRange},
		{0, api.MaxNodes + 1, 2, api.ErrRange}, {16, api.MaxNodes + 1, 2, api.ErrRange}, {0, math.MaxInt, 2, api.ErrRange}, {math.MaxInt - 1, math.MaxInt, 2, api.ErrRange},
	} {
		d := newDisk(t, 100)
		n, e := raft.Open(x.id, x.nodes, x.patience, d)
		if e != x.want || (n == nil) != (e != api.OK) {
			t.Error(x, n, e)
		}
		onDisk(t, d)
		if n, e := raft.Open(x.id, x.nodes, x.patience, nil); n != nil || e != api.ErrNone {
			t.Error(x, n, e)
		}
	}
}

// Promise 16.1: what chapter 15's Open refuses is told, behind what the node's own numbers are refused for.
func TestOpenRefusesBallot(t *testing.T) {
	for i, x := range []struct {
		frames string
		nodes  int
		want   api.Errno
	}{
		{stand(4, 2), 3, api.OK}, {stand(4, 2), 2, api.ErrCorrupt}, {stand(4, -1) + put(5, "a"), 3, api.ErrCorrupt}, {stand(4, -1) + stand(3, -1), 3, api.ErrCorrupt}, {"zzzzzzzz", 3, api.ErrCorrupt}, {stand(0, -1), 3, api.ErrCorrupt},
	} {
		d := with(t, x.frames)
		n, e := raft.Open(1, x.nodes, 2, d)
		if e != x.want || (n == nil) != (e != api.OK) {
			t.Error(i, n, e)
		}
		onDisk(t, d, x.frames)
		if n, e := raft.Open(1, x.nodes, 0, d); n != nil || e != api.ErrRange {
			t.Error(i, n, e)
		}
		if n, e := raft.Open(x.nodes, x.nodes, 2, d); n != nil || e != api.ErrRange {
			t.Error(i, n, e)
		}
	}
	d := with(t, stand(4, 2), "z")
	must(t, d.Fuse(0))
	if n, e := raft.Open(1, 3, 2, d); n != nil || e != api.ErrDown {
		t.Error(n, e)
	}
	must(t, d.Crash(nil))
	is(t, opened(t, 1, 3, 2, d), raft.RFollow, 4, -1, 0)
	onDisk(t, d, stand(4, 2))
}

// Promise 16.1: a node that was opened follows, knows no leader, has committed nothing, has nothing to tell, and writes nothing.
func TestOpen(t *testing.T) {
	d := newDisk(t, 1000)
	n := opened(t, 1, 3, 2, d)
	is(t, n, raft.RFollow, 0, -1, 0)
	sends(t, n)
	takes(t, n, math.MaxInt)
	onDisk(t, d)
	begun := []string{stand(7, 1), put(2, "a"), put(7, "b")}
	d = with(t, begun...)
	must(t, d.Fuse(0))
	n = opened(t, 1, 3, 2, d)
	is(t, n, raft.RFollow, 7, -1, 0)
	sends(t, n)
	takes(t, n, math.MaxInt)
	onDisk(t, d, begun...)
}

// Promise 16.1: behind a crash a node has its term, vote and log, and nothing else that it knew.
func TestOpenBehindCrash(t *testing.T) {
	d := newDisk(t, 1000)
	n := leading(t, 3, d)
	proposes(t, n, "a", 2, api.OK)
	hears(t, n, 1, answer(1, 1, 2))
	is(t, n, raft.RLead, 1, 0, 2)
	must(t, d.Crash([]int{-1}))
	n = opened(t, 0, 3, 2, d)
	is(t, n, raft.RFollow, 1, -1, 0)
	sends(t, n)
	takes(t, n, 9)
	proposes(t, n, "b", 0, api.ErrRole)
	refuseVote := vote(1, 0)
	hears(t, n, 1, ask(1, 9, 1))
	sends(t, n, to(1, refuseVote))
	hears(t, n, 1, answer(1, 1, 2))
	hears(t, n, 1, vote(1, 1))
	is(t, n, raft.RFollow, 1, -1, 0)
	has(t, d, 3, 1, 0, entry(1, ""), entry(1, "a"))
}

// Promise 16.1: the roles are what the chapter says.
func TestRoles(t *testing.T) {
	if raft.RFollow != 0 || raft.RAsk != 1 || raft.RLead != 2 {
		t.Error(raft.RFollow, raft.RAsk, raft.RLead)
	}
}

// Promise 16.1: letters are told once, in the order in which the node wanted to send them.
func TestLetters(t *testing.T) {
	n := opened(t, 0, 3, 1, newDisk(t, 1000))
	ticks(t, n, 2)
	hears(t, n, 2, ask(1, 0, 0))
	sends(t, n, to(1, ask(1, 0, 0)), to(2, ask(1, 0, 0)), to(1, ask(2, 0, 0)), to(2, ask(2, 0, 0)), to(2, vote(2, 0)))
	sends(t, n)
	ticks(t, n, 1)
	sends(t, n, to(1, ask(3, 0, 0)), to(2, ask(3, 0, 0)))
	sends(t, n)
}

// Rule R4: an answer is new memory, spare room too: what the caller does with it changes no later one, nor does a later one change it.
func TestAnswersApart(t *testing.T) {
	n := leading(t, 3, newDisk(t, 10000))
	ticks(t, n, 1)
	one := n.Letters()
	one = one[:cap(one)]
	for i := range one {
		one[i] = to(9, "z")
	}
	all := give(1, 0, 0, 0, entry(1, ""))
	ticks(t, n, 1)
	sends(t, n, to(1, all), to(2, all))
	for _, x := range one {
		if x != to(9, "z") {
			t.Error(brief(one))
		}
	}
}

// Promise 16.1: Taken tells what is committed, in order, each once, at most so many.
func TestTaken(t *testing.T) {
	a, b, c, e := entry(1, "a"), entry(2, "b"), entry(2, "c"), entry(4, "e")
	n := opened(t, 1, 3, 2, newDisk(t, 1000))
	takes(t, n, 9)
	hears(t, n, 0, give(4, 0, 0, 3, a, b, c, e))
	is(t, n, raft.RFollow, 4, 0, 3)
	for _, most := range []int{-1, math.MinInt} {
		if l, e := n.Taken(most); len(l) != 0 || e != api.ErrRange {
			t.Error(most, l, e)
		}
	}
	takes(t, n, 0)
	takes(t, n, 1, a)
	takes(t, n, 2, b, c)
	takes(t, n, math.MaxInt)
	hears(t, n, 0, give(4, 4, 4, 4))
	takes(t, n, math.MaxInt, e)
	takes(t, n, math.MaxInt)
	if l, e := n.Taken(-1); len(l) != 0 || e != api.ErrRange {
		t.Error(l, e)
	}
}

// Promise 16.1: Taken goes as far as the log does, even if what was committed, or taken, was cut away by somebody's letter.
func TestTakenBehindCut(t *testing.T) {
	n := opened(t, 1, 3, 2, newDisk(t, 1000))
	hears(t, n, 0, give(4, 0, 0, 3, entry(1, "a"), entry(1, "b"), entry(1, "c")))
	takes(t, n, 2, entry(1, "a"), entry(1, "b"))
	hears(t, n, 0, give(4, 0, 0, 0, entry(3, "x")))
	is(t, n, raft.RFollow, 4, 0, 3)
	takes(t, n, 9)
	hears(t, n, 0, give(4, 1, 3, 0, entry(3, "y")))
	takes(t, n, 9)
	hears(t, n, 0, give(4, 2, 3, 0, entry(3, "z"), entry(3, "w")))
	is(t, n, raft.RFollow, 4, 0, 3)
	takes(t, n, 9, entry(3, "z"))
	hears(t, n, 0, give(4, 4, 3, 4))
	takes(t, n, 9, entry(3, "w"))
}

// Rule R4: what Taken answers is the caller's own.
func TestTakenApart(t *testing.T) {
	n := opened(t, 1, 3, 2, newDisk(t, 1000))
	hears(t, n, 0, give(1, 0, 0, 2, entry(1, "a"), entry(1, "b"), entry(1, "c")))
	l, _ := n.Taken(2)
	l = l[:cap(l)]
	for i := range l {
		l[i] = entry(9, "z")
	}
	hears(t, n, 0, give(1, 3, 1, 3))
	takes(t, n, 9, entry(1, "c"))
	must(t, n.Hear(2, give(1, 1, 1, 0, entry(1, "b"), entry(1, "c"), entry(1, "d"))))
	hears(t, n, 0, give(1, 4, 1, 4))
	takes(t, n, 9, entry(1, "d"))
}
