package chain_test

import (
	"math"
	"slices"
	"testing"

	"skylark/api"
	"skylark/chain"
)

// The chapter's example.
func TestExample(t *testing.T) {
	h, l := begun(t, 0), begun(t, 1)
	must(t, h.Config(1, []int{0, 1}))
	must(t, l.Config(1, []int{0, 1}))
	r := api.Request{Client: 7, Seq: 1, Ops: []api.Op{add("k", "v", 1)}}
	submits(t, h, r, 1)
	sent := h.Letters()
	if len(sent) != 1 || sent[0] != to(1, down(1, 1, r)) {
		t.Fatal(sent)
	}
	hears(t, l, 0, sent[0].Body)
	tells(t, l, api.Reply{Client: 7, Seq: 1, Results: []api.Result{{Stamp: 1}}})
	back := l.Letters()
	if !slices.Equal(back, []api.Letter{to(0, sure(1, 0)), to(0, sure(1, 1))}) {
		t.Fatal(back)
	}
	hears(t, h, 1, back[1].Body)
	is(t, h, 1, 0, 1, 1)
}

// The document's eighth example: a head goes down with a request that it alone has; that is lost, and never told.
func TestHeadGoesDown(t *testing.T) {
	h, m, l := begun(t, 0), begun(t, 1), begun(t, 2)
	for _, x := range []*chain.Member{h, m, l} {
		must(t, x.Config(1, []int{0, 1, 2}))
		x.Letters()
	}
	fills(t, h, 1, 1)
	h.Letters()
	for _, x := range []*chain.Member{m, l} {
		must(t, x.Config(2, []int{1, 2}))
	}
	is(t, m, 2, 0, 0, 0)
	is(t, l, 2, 1, 0, 0)
	submits(t, m, asked(9, get("k")), 1)
	hears(t, l, 1, m.Letters()[0].Body)
	tells(t, l, replied(9, api.Result{Code: api.ErrMissing}))
	tells(t, h)
}

// Promise 19.1: a member has a number from 0 to api.MaxNodes - 1, and no order at first.
func TestNew(t *testing.T) {
	for _, id := range []int{-1, 16, 17, math.MinInt, math.MaxInt} {
		if m, e := chain.New(id); m != nil || e != api.ErrRange {
			t.Error(id, m, e)
		}
	}
	for id := range 16 {
		m := begun(t, id)
		is(t, m, 0, -1, 0, 0)
		sends(t, m)
		tells(t, m)
		holds(t, m)
		m.Tick()
		sends(t, m)
	}
	a, b := alone(t), alone(t)
	fills(t, a, 1, 1)
	is(t, b, 1, 0, 0, 0)
	holds(t, b)
}

// Promise 19.1: a member's place is where it stands in the order, of whatever length; there is none where it is not.
func TestConfigPlaces(t *testing.T) {
	all := []int{15, 0, 7, 3, 12, 1, 9, 5}
	for size := 1; size <= 8; size++ {
		for _, id := range []int{15, 0, 7, 3, 12, 1, 9, 5, 2} {
			m := begun(t, id)
			must(t, m.Config(size, all[:size]))
			place := slices.Index(all[:size], id)
			is(t, m, size, place, 0, 0)
			if place > 0 && place == size-1 {
				sends(t, m, to(all[place-1], sure(size, 0)))
			}
			sends(t, m)
			tells(t, m)
			must(t, m.Config(size+1, all[:size]))
			is(t, m, size+1, place, 0, 0)
		}
	}
}

// Promise 19.1: the first thing that is wrong of an epoch and its order is told, and nothing is changed.
func TestConfigRefuses(t *testing.T) {
	m := middle(t)
	must(t, m.Config(5, []int{4, 5, 6}))
	hears(t, m, 4, down(5, 1, setting(1)))
	m.Letters()
	for _, x := range []struct {
		epoch int
		order []int
		want  api.Errno
	}{
		{6, nil, api.ErrRange}, {6, []int{}, api.ErrRange}, {6, []int{0, 1, 2, 3, 4, 5, 6, 7, 8}, api.ErrRange}, {6, slices.Repeat([]int{5}, 9), api.ErrRange}, {6, make([]int, 5000), api.ErrRange},
		{6, []int{-1}, api.ErrRange}, {6, []int{16}, api.ErrRange}, {6, []int{4, 5, 16}, api.ErrRange}, {6, []int{4, 5, math.MinInt}, api.ErrRange}, {6, []int{math.MaxInt, 5}, api.ErrRange}, {6, []int{5, 5, 16}, api.ErrRange}, {6, []int{5, 5, 4, 4, 5, 5, 4, -1}, api.ErrRange},
		{0, []int{5}, api.ErrRange}, {-1, []int{5}, api.ErrRange}, {1<<30 + 1, []int{5}, api.ErrRange}, {math.MinInt, []int{5}, api.ErrRange}, {math.MaxInt, []int{5}, api.ErrRange}, {0, []int{5, 5}, api.ErrRange}, {1<<30 + 1, []int{5, 5}, api.ErrRange},
		{6, []int{5, 5}, api.ErrShape}, {6, []int{5, 4, 6, 5}, api.ErrShape}, {6, []int{5, 4, 4}, api.ErrShape}, {6, []int{1, 2, 3, 4, 5, 6, 7, 1}, api.ErrShape}, {5, []int{5, 5}, api.ErrShape}, {1, []int{5, 4, 4}, api.ErrShape},
		{5, []int{5}, api.ErrStale}, {4, []int{5}, api.ErrStale}, {1, []int{4, 5}, api.ErrStale}, {5, []int{4, 5, 6}, api.ErrStale},
	} {
		if e := m.Config(x.epoch, x.order); e != x.want {
			t.Error(x, e)
		}
		is(t, m, 5, 1, 0, 1)
		sends(t, m)
		tells(t, m)
	}
	m.Tick()
	sends(t, m, to(6, down(5, 1, setting(1))))
	must(t, m.Config(6, []int{0, 1, 2, 3, 4, 6, 7, 5}))
	must(t, m.Config(1<<30, []int{15, 5}))
	told(t, m.Config(1<<30, []int{15, 5}), api.ErrStale)
	is(t, m, 1<<30, 1, 1, 1)
	n := begun(t, 5)
	told(t, n.Config(0, []int{5}), api.ErrRange)
	must(t, n.Config(1<<30, []int{5}))
}

// Promise 19.1: letters of the greatest epoch that may be are letters still.
func TestConfigGreatestEpoch(t *testing.T) {
	for _, epoch := range []int{api.MaxIndex, api.MaxIndex + 1, api.MaxEpoch} {
		h, l := begun(t, 4), begun(t, 5)
		must(t, h.Config(epoch, []int{4, 5}))
		must(t, l.Config(epoch, []int{4, 5}))
		sends(t, l, to(4, sure(epoch, 0)))
		fills(t, h, 1, 1)
		sends(t, h, to(5, down(epoch, 1, setting(1))))
		hears(t, l, 4, down(epoch, 1, setting(1)))
		sends(t, l, to(4, sure(epoch, 1)))
		hears(t, h, 5, sure(epoch, 1))
		is(t, h, epoch, 0, 1, 1)
	}
}

// Promise 19.1: one that becomes the tail tells the replies that it had, in order, is sure of all, and tells so once to the one ahead.
func TestConfigMakesTail(t *testing.T) {
	m := middle(t)
	hears(t, m, 4, down(1, 1, asked(1, add("k", "v", 1))))
	hears(t, m, 4, down(1, 2, asked(2, get("k"))))
	hears(t, m, 4, down(1, 3, asked(3, set("k", "w", 2))))
	hears(t, m, 4, down(1, 4, asked(4, get("k"), get("j"))))
	hears(t, m, 4, down(1, 5, asked(5, add("k", "x", 3))))
	hears(t, m, 6, sure(1, 1))
	m.Letters()
	tells(t, m)
	is(t, m, 1, 1, 1, 5)
	must(t, m.Config(2, []int{0, 5}))
	is(t, m, 2, 1, 5, 5)
	tells(t, m, replied(2, api.Result{Stamp: 1, Val: "v"}), replied(3, api.Result{Stamp: 2}), failed(4, 1, api.ErrMissing), replied(5, api.Result{Code: api.ErrExists, Stamp: 2}))
	tells(t, m)
	sends(t, m, to(0, sure(2, 5)))
	holds(t, m, row("k", "w", 2))
	must(t, m.Config(3, []int{0, 5}))
	tells(t, m)
	sends(t, m, to(0, sure(3, 5)))
	must(t, m.Config(4, []int{0, 5, 6}))
	is(t, m, 4, 1, 5, 5)
	sends(t, m)
	m.Tick()
	sends(t, m)
}

// Promise 19.1: a head that is left alone is its own tail: it tells replies, and nobody else that it is sure.
func TestConfigLeavesAlone(t *testing.T) {
	m := head(t)
	fills(t, m, 1, 256)
	m.Letters()
	must(t, m.Config(2, []int{5}))
	is(t, m, 2, 0, 256, 256)
	sends(t, m)
	got := m.Replies()
	if len(got) != 256 {
		t.Fatal(len(got))
	}
	for i, p := range got {
		if !sameReply(p, settled(1+i)) {
			t.Error(i, brief(p))
		}
	}
	fills(t, m, 257, 257)
	tells(t, m, settled(257))
}

// Promise 19.1: one that does not become the tail keeps what is under way, and sends it to the one behind in the new order, of the new epoch.
func TestConfigKeepsUnderWay(t *testing.T) {
	m := middle(t)
	hears(t, m, 4, down(1, 1, setting(1)))
	hears(t, m, 4, down(1, 2, setting(2)))
	hears(t, m, 6, sure(1, 1))
	m.Letters()
	must(t, m.Config(2, []int{5, 7, 6}))
	is(t, m, 2, 0, 1, 2)
	sends(t, m)
	tells(t, m)
	m.Tick()
	sends(t, m, to(7, down(2, 2, setting(2))))
	must(t, m.Config(3, []int{7, 6}))
	is(t, m, 3, -1, 1, 2)
	m.Tick()
	sends(t, m)
	tells(t, m)
	must(t, m.Config(4, []int{7, 5, 6}))
	is(t, m, 4, 1, 1, 2)
	m.Tick()
	sends(t, m, to(6, down(4, 2, setting(2))))
	must(t, m.Config(5, []int{7, 6}))
	must(t, m.Config(6, []int{7, 5}))
	is(t, m, 6, 1, 2, 2)
	tells(t, m, settled(2))
	sends(t, m, to(7, sure(6, 2)))
}

// Promises 19.1 and 19.4: what is to be sent and told waits, as it is, whatever order is told meanwhile.
func TestConfigLetsLettersWait(t *testing.T) {
	m := begun(t, 5)
	must(t, m.Config(1, []int{4, 5}))
	hears(t, m, 4, down(1, 1, setting(1)))
	must(t, m.Config(2, []int{5, 6}))
	fills(t, m, 2, 2)
	must(t, m.Config(3, []int{6, 7}))
	must(t, m.Config(4, []int{7, 5}))
	sends(t, m, to(4, sure(1, 0)), to(4, sure(1, 1)), to(6, down(2, 2, setting(2))), to(7, sure(4, 2)))
	tells(t, m, settled(1), settled(2))
}
