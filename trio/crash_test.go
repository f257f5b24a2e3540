package trio_test

import (
	"slices"
	"testing"

	"skylark/api"
	"skylark/raft"
)

// Acts: TFuse is a fuse of I modulo 40: so many calls of the disk are taken, then the node is down. A tick that asks is four of them, of the only node six.
func TestFuse(t *testing.T) {
	for _, i := range []int{0, 1, 2, 3, 4, 5, 6, 39, 40, 41, 46, -1, -40, -39, -34, 80, 1 << 60} {
		fuse := (i%40 + 40) % 40
		x := newTrio(t, 2, 2)
		does(t, x, api.Act{Kind: api.TFuse, N: 1, I: i})
		want := fresh
		for calls := 4; ; calls += 4 {
			ticks(t, x, 1, 2)
			is(t, x, 1, want)
			ticks(t, x, 1, 1)
			if calls > fuse {
				break
			}
			want = view{raft.RAsk, calls / 4, -1, 0, true}
			is(t, x, 1, want)
			onWay(t, x, calls/4)
		}
		want.up = false
		if fuse%4 >= 2 {
			// The new term is on the disk, the vote is not.
			want.term++
		}
		is(t, x, 1, want)
		onWay(t, x, fuse/4)
		is(t, x, 0, fresh)
	}
}

// Acts: a fuse that is set again counts from then on, and a fuse of a node that is down lets it be down.
func TestFuseAgain(t *testing.T) {
	x := newTrio(t, 2, 2)
	does(t, x, api.Act{Kind: api.TFuse, N: 0})
	does(t, x, api.Act{Kind: api.TFuse, N: 0, I: 4})
	ticks(t, x, 0, 2)
	is(t, x, 0, view{raft.RAsk, 1, -1, 0, true})
	ticks(t, x, 0, 2)
	down := view{raft.RAsk, 1, -1, 0, false}
	is(t, x, 0, down)
	does(t, x, api.Act{Kind: api.TFuse, N: 0, I: 39})
	ticks(t, x, 0, 9)
	proposes(t, x, 0, "a", 0, api.ErrDown)
	is(t, x, 0, down)
}

// Words: a node that is down does nothing, hears nothing and tells what it was, until it crashes; the letters to it are taken from their way.
func TestDown(t *testing.T) {
	x := led(t, 3, 2)
	ticks(t, x, 1, 3)
	onWay(t, x, 2)
	does(t, x, api.Act{Kind: api.TFuse, N: 1})
	ticks(t, x, 1, 3)
	down := view{raft.RAsk, 2, -1, 1, false}
	is(t, x, 1, down)
	onWay(t, x, 2)
	ticks(t, x, 0, 1)
	onWay(t, x, 4)
	delivers(t, x, 2)
	onWay(t, x, 3)
	is(t, x, 1, down)
	ticks(t, x, 1, 9)
	rounds(t, x, 9)
	onWay(t, x, 0)
	is(t, x, 1, down)
	took(t, x, 1, entry(1, ""))
	does(t, x, api.Act{Kind: api.TCrash, N: 1})
	is(t, x, 1, view{raft.RFollow, 2, -1, 0, true})
	took(t, x, 1)
}

// Words: a node goes down at a letter, too.
func TestDownAtLetter(t *testing.T) {
	x := asking(t)
	does(t, x, api.Act{Kind: api.TFuse, N: 1})
	delivers(t, x, 0)
	onWay(t, x, 1)
	want := fresh
	want.up = false
	is(t, x, 1, want)
	rounds(t, x, 1)
	is(t, x, 1, want)
	is(t, x, 0, view{raft.RLead, 1, 0, 1, true})
	is(t, x, 2, view{raft.RFollow, 1, 0, 0, true})
}

// Acts: TCrash opens the node again, be it up or down: it follows, knows no leader, has its term and log, and took nothing; what is committed it takes anew.
func TestCrash(t *testing.T) {
	for _, id := range []int{0, 1} {
		x := led(t, 3, 2)
		proposes(t, x, 0, "a", 2, api.OK)
		rounds(t, x, 2)
		does(t, x, api.Act{Kind: api.TCrash, N: id})
		is(t, x, id, view{raft.RFollow, 1, -1, 0, true})
		took(t, x, id)
		took(t, x, 2, entry(1, ""), entry(1, "a"))
		rounds(t, x, 20)
		proposes(t, x, 0, "b", map[int]int{0: 4, 1: 3}[id], api.OK)
		rounds(t, x, 2)
		took(t, x, id, x.Took(2)...)
		if l := x.Took(id); len(l) < 3 || l[1] != entry(1, "a") {
			t.Error(l)
		}
	}
}

// Acts: by TCrash all letters from the node and to it are lost, and no others.
func TestCrashLosesLetters(t *testing.T) {
	for id, want := range []int{2, 4, 4, 2} {
		x := newTrio(t, 4, 2)
		ticks(t, x, 0, 2)
		delivers(t, x, 0)
		delivers(t, x, 0)
		onWay(t, x, 3)
		ticks(t, x, 3, 5)
		// of 0 to 3; of 1 and 2 to 0; of 3 to 0, 1 and 2
		onWay(t, x, 6)
		does(t, x, api.Act{Kind: api.TCrash, N: id})
		onWay(t, x, want)
	}
}

// Acts: what is not synced is kept as Draws say, but none of them if they are more than api.MaxItems; a crash takes the fuse away.
func TestCrashDraws(t *testing.T) {
	// The only node's Turn is a frame that is appended, and not synced: 8 bytes around numbers of 3, 3 and 10 bytes.
	const whole = 24
	for _, x := range []struct {
		draws []int
		term  int
	}{
		{nil, 0}, {[]int{0}, 0}, {[]int{-1}, 0}, {[]int{whole - 1}, 0}, {[]int{whole}, 1}, {[]int{whole, 0}, 1}, {[]int{whole + 1}, 0}, {[]int{2*whole + 1}, 1}, {slices.Repeat([]int{whole}, api.MaxItems), 1}, {slices.Repeat([]int{whole}, api.MaxItems+1), 0},
	} {
		y := newTrio(t, 1, 1)
		does(t, y, api.Act{Kind: api.TFuse, I: 1})
		ticks(t, y, 0, 1)
		want := fresh
		want.up = false
		is(t, y, 0, want)
		does(t, y, api.Act{Kind: api.TCrash, Draws: x.draws})
		is(t, y, 0, view{raft.RFollow, x.term, -1, 0, true})
		ticks(t, y, 0, 1)
		is(t, y, 0, view{raft.RLead, x.term + 1, 0, 1, true})
	}
}

// Rule R4: what is handed in is not changed, and what lies behind a list's length neither.
func TestDrawsKept(t *testing.T) {
	x := led(t, 3, 2)
	draws := []int{1, 2, 3, 4}
	does(t, x, api.Act{Kind: api.TCrash, N: 1, Draws: draws[:2]})
	if !slices.Equal(draws, []int{1, 2, 3, 4}) {
		t.Error(draws)
	}
}

// Rule R4: what Took answers is the caller's own, spare room too.
func TestTookApart(t *testing.T) {
	x := led(t, 3, 2)
	one, two := x.Took(1), x.Took(1)
	for i := range one[:cap(one)] {
		one[:cap(one)][i] = entry(9, "z")
	}
	if !slices.Equal(two, []api.Entry{entry(1, "")}) {
		t.Error(two)
	}
	proposes(t, x, 0, "a", 2, api.OK)
	rounds(t, x, 2)
	took(t, x, 1, entry(1, ""), entry(1, "a"))
	if one[0] != entry(9, "z") || two[0] != entry(1, "") {
		t.Error(one, two)
	}
}
