package raft_test

import (
	"testing"

	"skylark/api"
	"skylark/raft"
)

// Promise 16.4: what is proposed stands at the log's end, on the disk, and is sent to all others.
func TestPropose(t *testing.T) {
	d := newDisk(t, 1000)
	n := leading(t, 3, d)
	proposes(t, n, "a", 2, api.OK)
	both := give(1, 0, 0, 0, entry(1, ""), entry(1, "a"))
	sends(t, n, to(1, both), to(2, both))
	hears(t, n, 2, answer(1, 1, 1))
	proposes(t, n, "", 3, api.OK)
	sends(t, n, to(1, give(1, 0, 0, 1, entry(1, ""), entry(1, "a"), entry(1, ""))), to(2, give(1, 1, 1, 1, entry(1, "a"), entry(1, ""))))
	onDisk(t, d, stand(1, -1), stand(1, 0), put(1, ""), put(1, "a"), put(1, ""))
	is(t, n, raft.RLead, 1, 0, 1)
	must(t, d.Crash([]int{-1}))
	has(t, d, 3, 1, 0, entry(1, ""), entry(1, "a"), entry(1, ""))
}

// Promise 16.4: ErrRole, if the node does not lead, ahead of Data that is too long; ErrLong of that, which changes nothing.
func TestProposeRefused(t *testing.T) {
	n := opened(t, 0, 3, 2, newDisk(t, 10000))
	for _, data := range []string{"", "a", long(4097)} {
		proposes(t, n, data, 0, api.ErrRole)
	}
	ticks(t, n, 2)
	for _, data := range []string{"", "a", long(4097)} {
		proposes(t, n, data, 0, api.ErrRole)
	}
	sends(t, n, to(1, ask(1, 0, 0)), to(2, ask(1, 0, 0)))
	d := newDisk(t, 10000)
	n = leading(t, 3, d)
	proposes(t, n, long(4097), 0, api.ErrLong)
	sends(t, n)
	is(t, n, raft.RLead, 1, 0, 0)
	onDisk(t, d, stand(1, -1), stand(1, 0), put(1, ""))
	proposes(t, n, long(4096), 2, api.OK)
	ticks(t, n, 1)
	hears(t, n, 1, answer(1, 1, 2))
	is(t, n, raft.RLead, 1, 0, 2)
	takes(t, n, 9, entry(1, ""), entry(1, long(4096)))
	hears(t, n, 1, vote(2, 0))
	proposes(t, n, "a", 0, api.ErrRole)
}

// Promise 16.4: the only node commits at once what it is proposed, and refuses as others do.
func TestProposeAlone(t *testing.T) {
	n := opened(t, 0, 1, 1, newDisk(t, 10000))
	proposes(t, n, "a", 0, api.ErrRole)
	ticks(t, n, 1)
	is(t, n, raft.RLead, 1, 0, 1)
	proposes(t, n, long(4097), 0, api.ErrLong)
	is(t, n, raft.RLead, 1, 0, 1)
	for i := range 30 {
		proposes(t, n, "a", i+2, api.OK)
		is(t, n, raft.RLead, 1, 0, i+2)
	}
	sends(t, n)
	takes(t, n, 2, entry(1, ""), entry(1, "a"))
}

// Promises 16.2 to 16.4: what the disk refuses at each step is told, and ends the call: no letter tells what the disk has not.
func TestDiskRefuses(t *testing.T) {
	for _, x := range []struct {
		name string
		call func(n *raft.Node) api.Errno
		// calls is how many calls of the disk it takes, of a node that asks already, or is the only one.
		calls            int
		isAsking, isOnly bool
	}{
		{"tick", func(n *raft.Node) api.Errno { return n.Tick() }, 4, false, false},
		{"tick alone", func(n *raft.Node) api.Errno { return n.Tick() }, 6, false, true},
		{"asked", func(n *raft.Node) api.Errno { return n.Hear(1, ask(9, 9, 9)) }, 4, false, false},
		{"asked in its term", func(n *raft.Node) api.Errno { return n.Hear(1, ask(5, 9, 9)) }, 2, false, false},
		{"entries", func(n *raft.Node) api.Errno { return n.Hear(1, give(9, 0, 0, 0, entry(3, "x"))) }, 4, false, false},
		{"entries of its term", func(n *raft.Node) api.Errno { return n.Hear(1, give(5, 0, 0, 0, entry(3, "x"))) }, 2, false, false},
		{"vote", func(n *raft.Node) api.Errno { return n.Hear(1, vote(6, 1)) }, 2, true, false},
		{"answer of a term above", func(n *raft.Node) api.Errno { return n.Hear(1, answer(9, 1, 0)) }, 2, true, false},
	} {
		nodes := 3
		if x.isOnly {
			nodes = 1
		}
		for fuse := 0; fuse <= x.calls; fuse++ {
			d := with(t, stand(5, -1))
			n := opened(t, 0, nodes, 1, d)
			if x.isAsking {
				ticks(t, n, 1)
			}
			n.Letters()
			must(t, d.Fuse(fuse))
			want := api.ErrDown
			if fuse == x.calls {
				want = api.OK
			}
			if e := x.call(n); e != want {
				t.Error(x.name, fuse, e)
			}
			if want != api.OK {
				sends(t, n)
			}
			told(t, d.Append("other", ""), api.ErrDown)
		}
	}
	d := newDisk(t, 1000)
	n := leading(t, 3, d)
	must(t, d.Fuse(1))
	proposes(t, n, "a", 0, api.ErrDown)
	sends(t, n)
}

// Promises 16.3 and 16.4: a disk that is full is told, too.
func TestDiskFull(t *testing.T) {
	room := len(stand(1, -1) + stand(1, 0) + put(1, ""))
	n := leading(t, 3, newDisk(t, room))
	proposes(t, n, "", 0, api.ErrSpace)
	sends(t, n)
	n = opened(t, 0, 3, 1, newDisk(t, room-1))
	ticks(t, n, 1)
	n.Letters()
	told(t, n.Hear(1, vote(1, 1)), api.ErrSpace)
	sends(t, n)
	n = opened(t, 0, 3, 1, newDisk(t, len(stand(1, -1))))
	told(t, n.Tick(), api.ErrSpace)
	sends(t, n)
	n = opened(t, 0, 3, 1, newDisk(t, len(stand(1, -1))))
	told(t, n.Hear(1, give(1, 0, 0, 0, entry(1, "a"))), api.ErrSpace)
	sends(t, n)
	n = opened(t, 0, 3, 1, newDisk(t, 0))
	told(t, n.Hear(1, ask(1, 0, 0)), api.ErrSpace)
	sends(t, n)
}

// Promise P1: a node that is asked though its disk refused ends its calls all the same.
func TestAskedAllTheSame(t *testing.T) {
	for fuse := range 12 {
		d := newDisk(t, 1000)
		n := opened(t, 0, 3, 1, d)
		must(t, d.Fuse(fuse))
		for _, body := range append(letters(), vote(1, 1), vote(2, 1), answer(1, 1, 1), answer(2, 0, 9)) {
			n.Tick()
			n.Hear(1, body)
			n.Propose("a")
			n.Hear(2, body)
			n.Taken(3)
			n.Letters()
			n.State()
		}
	}
}
