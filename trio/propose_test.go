package trio_test

import (
	"testing"

	"skylark/api"
	"skylark/raft"
)

// Promise 17.1: TPropose answers the entry's number; it is sent to all others at once, and taken once it is committed.
func TestPropose(t *testing.T) {
	x := led(t, 3, 2)
	proposes(t, x, 0, "a", 2, api.OK)
	onWay(t, x, 2)
	proposes(t, x, 0, "", 3, api.OK)
	proposes(t, x, 0, long(4096), 4, api.OK)
	onWay(t, x, 6)
	is(t, x, 0, view{raft.RLead, 1, 0, 1, true})
	took(t, x, 0, entry(1, ""))
	delivers(t, x, 0)
	took(t, x, 1, entry(1, ""))
	delivers(t, x, 5)
	is(t, x, 0, view{raft.RLead, 1, 0, 2, true})
	took(t, x, 0, entry(1, ""), entry(1, "a"))
	rounds(t, x, 2)
	for id := range 3 {
		took(t, x, id, entry(1, ""), entry(1, "a"), entry(1, ""), entry(1, long(4096)))
	}
}

// Promise 17.1: what chapter 16's Propose refuses is told, and the node is up all the same.
func TestProposeRefused(t *testing.T) {
	x := asking(t)
	for _, data := range []string{"", "a", long(4097)} {
		proposes(t, x, 0, data, 0, api.ErrRole)
		proposes(t, x, 1, data, 0, api.ErrRole)
	}
	is(t, x, 0, view{raft.RAsk, 1, -1, 0, true})
	is(t, x, 1, fresh)
	onWay(t, x, 2)
	x = led(t, 3, 2)
	proposes(t, x, 0, long(4097), 0, api.ErrLong)
	proposes(t, x, 0, long(api.MaxBytes+1), 0, api.ErrLong)
	proposes(t, x, 1, "a", 0, api.ErrRole)
	onWay(t, x, 0)
	is(t, x, 0, view{raft.RLead, 1, 0, 1, true})
	proposes(t, x, 0, "a", 2, api.OK)
}

// Promise 17.1: ErrDown of a node that is down, whatever it is proposed, and of one that goes down by it; nothing is sent by it, and nothing else of the node changes.
func TestProposeDown(t *testing.T) {
	for fuse := range 3 {
		x := led(t, 3, 2)
		does(t, x, api.Act{Kind: api.TFuse, N: 0, I: fuse})
		if fuse == 2 {
			proposes(t, x, 0, "a", 2, api.OK)
			does(t, x, api.Act{Kind: api.TFuse, N: 0})
			rounds(t, x, 1)
		}
		was := seen(x, 0)
		for _, data := range []string{"b", "", long(4096)} {
			proposes(t, x, 0, data, 0, api.ErrDown)
			was.up = false
			is(t, x, 0, was)
			onWay(t, x, 0)
		}
		proposes(t, x, 0, long(4097), 0, api.ErrDown)
		goesDown(t, x, 1, 2)
		proposes(t, x, 1, "a", 0, api.ErrDown)
	}
}

// Words: each disk has room for 60000 bytes; Promise 17.1: a node whose disk is full is down, and ErrDown is told; a crash puts it up again, with all that it had.
func TestDiskFull(t *testing.T) {
	// The node's frames: of the terms and votes 1 -1 and 1 0, and of entries, by chapters 1 and 15: eight bytes around a list, of which a number below 256 has three.
	const first = 8 + 3 + 3 + 10 + 8 + 3 + 3 + 2 + 8 + 3 + 3 + 2
	for more, want := range map[int]api.Errno{0: api.OK, 1: api.ErrDown} {
		x := led(t, 1, 1)
		left := 60000 - first
		number := 1
		var all []api.Entry
		all = append(all, entry(1, ""))
		propose := func(size int) {
			number++
			proposes(t, x, 0, long(size), number, api.OK)
			all = append(all, entry(1, long(size)))
			left -= 8 + 3 + 3 + 4 + size
		}
		for left > 5000 {
			propose(4000)
		}
		propose(left - 18 - 18 - 300)
		rest := left - 18 + more
		if want == api.OK {
			propose(rest)
		} else {
			proposes(t, x, 0, long(rest), 0, want)
		}
		is(t, x, 0, view{raft.RLead, 1, 0, number, want == api.OK})
		took(t, x, 0, all...)
		// A smaller one would find room, but the node is down.
		proposes(t, x, 0, "", 0, api.ErrDown)
		is(t, x, 0, view{raft.RLead, 1, 0, number, false})
		ticks(t, x, 0, 3)
		rounds(t, x, 3)
		is(t, x, 0, view{raft.RLead, 1, 0, number, false})
		took(t, x, 0, all...)
		does(t, x, api.Act{Kind: api.TCrash})
		is(t, x, 0, view{raft.RFollow, 1, -1, 0, true})
		took(t, x, 0)
	}
}
