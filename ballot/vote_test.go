package ballot_test

import (
	"math"
	"testing"

	"skylark/api"
)

// Promise 15.2: a term is from 1 to api.MaxTerm, which is told ahead of one that is not above the ballot's; terms may be passed over.
func TestTurn(t *testing.T) {
	d := newDisk(t, 1000)
	b := opened(t, d, 3)
	want, bytes := of(0, -1), ""
	for _, x := range []struct {
		term int
		want api.Errno
	}{
		{0, api.ErrRange}, {-1, api.ErrRange}, {math.MinInt, api.ErrRange}, {api.MaxTerm + 1, api.ErrRange}, {math.MaxInt, api.ErrRange},
		{1, api.OK}, {1, api.ErrStale}, {0, api.ErrRange}, {2, api.OK}, {1, api.ErrStale}, {9, api.OK}, {9, api.ErrStale}, {8, api.ErrStale},
		{api.MaxTerm, api.OK}, {api.MaxTerm, api.ErrStale}, {1, api.ErrStale}, {api.MaxTerm + 1, api.ErrRange}, {-1, api.ErrRange},
	} {
		told(t, b.Turn(x.term), x.want)
		if x.want == api.OK {
			want.term = x.term
			bytes += stand(x.term, -1)
		}
		want.is(t, b)
		if bytes == "" {
			onDisk(t, d)
			continue
		}
		onDisk(t, d, "ballot", bytes)
		want.is(t, opened(t, d, 3))
	}
}

// Promise 15.2: a new term has no vote; the log stays.
func TestTurnLetsVoteGo(t *testing.T) {
	d := with(t, stand(3, 2)+put(1, "a")+put(3, "b"))
	b := opened(t, d, 3)
	must(t, b.Turn(4))
	want := of(4, -1, entry(1, "a"), entry(3, "b"))
	want.is(t, b)
	want.is(t, opened(t, d, 3))
	must(t, b.Cast(0))
	of(4, 0, want.entries...).is(t, opened(t, d, 3))
}

// Promise 15.2: one vote a term; the same again is fine; a node that is none is told ahead of the term 0, that ahead of all else.
func TestCast(t *testing.T) {
	for _, nodes := range []int{1, 2, 3, api.MaxNodes} {
		for who := range nodes {
			d := newDisk(t, 1000)
			b := opened(t, d, nodes)
			none := []int{-1, -2, nodes, nodes + 1, math.MinInt, math.MaxInt}
			for _, x := range none {
				told(t, b.Cast(x), api.ErrRange)
			}
			told(t, b.Cast(who), api.ErrStale)
			onDisk(t, d)
			must(t, b.Turn(7))
			for _, x := range none {
				told(t, b.Cast(x), api.ErrRange)
			}
			onDisk(t, d, "ballot", stand(7, -1))
			told(t, b.Cast(who), api.OK)
			told(t, b.Cast(who), api.OK)
			for x := range nodes {
				if x != who {
					told(t, b.Cast(x), api.ErrThere)
				}
			}
			for _, x := range none {
				told(t, b.Cast(x), api.ErrRange)
			}
			of(7, who).is(t, b)
			onDisk(t, d, "ballot", stand(7, -1)+stand(7, who))
			of(7, who).is(t, opened(t, d, nodes))
		}
	}
}

// Promise 15.2: what was told is safe, and so is all else on the disk; a vote that was cast already is nothing to be done.
func TestTurnAndCastSync(t *testing.T) {
	d := newDisk(t, 1000)
	b := opened(t, d, 3)
	for i, call := range []func() api.Errno{
		func() api.Errno { return b.Turn(1) },
		func() api.Errno { return b.Cast(2) },
		func() api.Errno { return b.Turn(2) },
	} {
		must(t, d.Append("other", "x"))
		must(t, d.Fuse(2))
		told(t, call(), api.OK)
		told(t, d.Sync(), api.ErrDown)
		must(t, d.Crash([]int{-1, -1}))
		if s, _ := d.Read("other"); len(s) != i+1 {
			t.Error(i, s)
		}
		seen(t, b).is(t, opened(t, d, 3))
	}
	must(t, b.Cast(1))
	must(t, d.Append("other", "unsafe"))
	must(t, d.Fuse(0))
	told(t, b.Cast(1), api.OK)
	told(t, b.Cast(0), api.ErrThere)
	told(t, b.Cast(3), api.ErrRange)
	told(t, b.Turn(2), api.ErrStale)
	told(t, b.Turn(0), api.ErrRange)
	must(t, d.Fuse(1))
	told(t, d.Append("other", ""), api.OK)
	must(t, d.Crash(nil))
	onDisk(t, d, "ballot", stand(1, -1)+stand(1, 2)+stand(2, -1)+stand(2, 1), "other", "xxx")
}

// Promise 15.2: what the disk refuses is told, and the ballot says what it said.
func TestTurnAndCastRefused(t *testing.T) {
	begun := stand(3, -1)
	next := stand(4, -1)
	vote := stand(3, 1)
	for room := len(begun); room < len(begun)+len(next); room++ {
		d := newDisk(t, room)
		b := opened(t, d, 3)
		must(t, b.Turn(3))
		told(t, b.Turn(4), api.ErrSpace)
		of(3, -1).is(t, b)
		if room < len(begun)+len(vote) {
			told(t, b.Cast(1), api.ErrSpace)
			of(3, -1).is(t, b)
		}
	}
	for fuse := range 2 {
		for _, isTurn := range []bool{true, false} {
			d := with(t, begun)
			b := opened(t, d, 3)
			must(t, d.Fuse(fuse))
			if isTurn {
				told(t, b.Turn(4), api.ErrDown)
			} else {
				told(t, b.Cast(1), api.ErrDown)
			}
			of(3, -1).is(t, b)
			must(t, d.Crash([]int{-1}))
			onDisk(t, d, "ballot", begun)
			of(3, -1).is(t, opened(t, d, 3))
		}
	}
}
