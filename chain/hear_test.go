package chain_test

import (
	"math"
	"strings"
	"testing"

	"skylark/api"
	"skylark/chain"
)

// Promise 19.3: a member between others does the next request, keeps it, and sends it on; it is not sure of it, and tells no reply.
func TestHearRequestInTheMiddle(t *testing.T) {
	m := middle(t)
	for n := 1; n <= 3; n++ {
		hears(t, m, 4, down(1, n, setting(n)))
		is(t, m, 1, 1, 0, n)
		sends(t, m, to(6, down(1, n, setting(n))))
		tells(t, m)
	}
	holds(t, m, row("k", "3", 3))
}

// Promise 19.3: a tail does the next request, tells its reply, is sure, and tells so to the one ahead.
func TestHearRequestAtTail(t *testing.T) {
	m := tail(t)
	for n := 1; n <= 600; n++ {
		hears(t, m, 4, down(1, n, setting(n)))
		is(t, m, 1, 1, n, n)
		sends(t, m, to(4, sure(1, n)))
		tells(t, m, settled(n))
	}
	hears(t, m, 4, down(1, 601, asked(8, set("k", "", 700), get("j"))))
	tells(t, m, failed(8, 1, api.ErrMissing))
	sends(t, m, to(4, sure(1, 601)))
	m.Tick()
	sends(t, m)
	holds(t, m, row("k", "600", 600))
}

// Promise 19.3: of a request that it is sure of it tells how far it is sure, and does it no more; 0 is such a number, too.
func TestHearRequestAgain(t *testing.T) {
	m := tail(t)
	hears(t, m, 4, down(1, 0, setting(9)))
	is(t, m, 1, 1, 0, 0)
	sends(t, m, to(4, sure(1, 0)))
	hears(t, m, 4, down(1, 1, asked(1, add("k", "v", 1))))
	hears(t, m, 4, down(1, 2, asked(2, remove("k"))))
	m.Letters()
	m.Replies()
	for _, n := range []int{1, 2, 0, 2} {
		hears(t, m, 4, down(1, n, asked(1, add("k", "v", 1))))
		is(t, m, 1, 1, 2, 2)
		sends(t, m, to(4, sure(1, 2)))
		tells(t, m)
		holds(t, m)
	}
	n := middle(t)
	for i := 1; i <= 4; i++ {
		hears(t, n, 4, down(1, i, setting(i)))
	}
	hears(t, n, 6, sure(1, 2))
	n.Letters()
	for _, i := range []int{0, 1, 2} {
		hears(t, n, 4, down(1, i, setting(90)))
		is(t, n, 1, 1, 2, 4)
		sends(t, n, to(4, sure(1, 2)))
		holds(t, n, row("k", "4", 4))
	}
}

// Promise 19.3: of a request that is under way, or further than the next, nothing comes.
func TestHearRequestOutOfTurn(t *testing.T) {
	m := middle(t)
	for _, n := range []int{2, 3, 257, 1 << 20} {
		hears(t, m, 4, down(1, n, setting(n)))
		is(t, m, 1, 1, 0, 0)
		sends(t, m)
		holds(t, m)
	}
	for n := 1; n <= 4; n++ {
		hears(t, m, 4, down(1, n, setting(n)))
	}
	hears(t, m, 6, sure(1, 2))
	m.Letters()
	for _, n := range []int{3, 4, 6, 7, 4, 1 << 20} {
		hears(t, m, 4, down(1, n, setting(90)))
		is(t, m, 1, 1, 2, 4)
		sends(t, m)
		tells(t, m)
		holds(t, m, row("k", "4", 4))
	}
	m.Tick()
	sends(t, m, to(6, down(1, 3, setting(3))), to(6, down(1, 4, setting(4))))
	l := tail(t)
	for _, n := range []int{2, 3, 1 << 20} {
		hears(t, l, 4, down(1, n, setting(n)))
		is(t, l, 1, 1, 0, 0)
		sends(t, l)
		tells(t, l)
	}
}

// Promise 19.3: ErrLong of the next request, if 256 are under way; of all others what is told of them else.
func TestHearRequestTooMany(t *testing.T) {
	m := middle(t)
	for n := 1; n <= 256; n++ {
		hears(t, m, 4, down(1, n, setting(n)))
	}
	is(t, m, 1, 1, 0, 256)
	refuses(t, m, 4, down(1, 257, setting(257)), api.ErrLong)
	refuses(t, m, 4, down(1, 257, setting(257)), api.ErrLong)
	refuses(t, m, 6, down(1, 257, setting(257)), api.ErrPeer)
	refuses(t, m, 4, down(2, 257, setting(257)), api.ErrStale)
	refuses(t, m, 4, down(1, 257, asked(0, get("k"))), api.ErrPeer)
	refuses(t, m, 4, down(1, 258, setting(258)), api.OK)
	refuses(t, m, 4, down(1, 256, setting(256)), api.OK)
	refuses(t, m, 4, down(1, 1, setting(1)), api.OK)
	hears(t, m, 4, down(1, 0, setting(1)))
	sends(t, m, to(4, sure(1, 0)))
	hears(t, m, 6, sure(1, 1))
	hears(t, m, 4, down(1, 257, setting(257)))
	refuses(t, m, 4, down(1, 258, setting(258)), api.ErrLong)
	is(t, m, 1, 1, 1, 257)
}

// Promise 19.3: the last request that can be is done, by whomever.
func TestHearLastRequest(t *testing.T) {
	for _, order := range [][]int{{4, 5}, {4, 5, 6}} {
		m := begun(t, 5)
		must(t, m.Load(nil, api.MaxIndex-1))
		must(t, m.Config(1, order))
		hears(t, m, 4, down(1, api.MaxIndex, setting(1)))
		_, _, _, done := m.State()
		if done != api.MaxIndex {
			t.Error(done)
		}
		refuses(t, m, 4, down(1, api.MaxIndex+1, setting(1)), api.ErrPeer)
	}
}

// Promise 19.3: as sure as the one behind is; the one ahead is told, and what is sure is kept no more.
func TestHearSure(t *testing.T) {
	m := middle(t)
	for n := 1; n <= 5; n++ {
		hears(t, m, 4, down(1, n, setting(n)))
	}
	m.Letters()
	hears(t, m, 6, sure(1, 2))
	is(t, m, 1, 1, 2, 5)
	sends(t, m, to(4, sure(1, 2)))
	for _, n := range []int{2, 1, 0} {
		hears(t, m, 6, sure(1, n))
		is(t, m, 1, 1, 2, 5)
		sends(t, m)
	}
	m.Tick()
	sends(t, m, to(6, down(1, 3, setting(3))), to(6, down(1, 4, setting(4))), to(6, down(1, 5, setting(5))))
	for _, n := range []int{6, 7, 257, 1 << 20} {
		refuses(t, m, 6, sure(1, n), api.ErrPeer)
	}
	hears(t, m, 6, sure(1, 5))
	is(t, m, 1, 1, 5, 5)
	sends(t, m, to(4, sure(1, 5)))
	tells(t, m)
	m.Tick()
	sends(t, m)
	refuses(t, m, 6, sure(1, 6), api.ErrPeer)
	must(t, m.Config(2, []int{4, 5}))
	tells(t, m)
}

// Promise 19.3: a head is as sure as the one behind, and has nobody to tell.
func TestHearSureAtHead(t *testing.T) {
	m := head(t)
	fills(t, m, 1, 3)
	m.Letters()
	refuses(t, m, 6, sure(1, 4), api.ErrPeer)
	for n := range 4 {
		hears(t, m, 6, sure(1, n))
		is(t, m, 1, 0, n, 3)
		sends(t, m)
		tells(t, m)
	}
	m.Tick()
	sends(t, m)
}

// Promise 19.3: ErrStale of another epoch, and of a member without a place, whoever it comes from; nothing is changed.
func TestHearStale(t *testing.T) {
	m := middle(t)
	must(t, m.Config(5, []int{4, 5, 6}))
	hears(t, m, 4, down(5, 1, setting(1)))
	for _, epoch := range []int{0, 1, 4, 6, 1 << 20, 1<<20 + 1, 1 << 30} {
		for _, from := range []int{4, 6, 5, 7, -1, math.MaxInt} {
			refuses(t, m, from, down(epoch, 2, setting(2)), api.ErrStale)
			refuses(t, m, from, down(epoch, 0, setting(2)), api.ErrStale)
			refuses(t, m, from, sure(epoch, 1), api.ErrStale)
			refuses(t, m, from, sure(epoch, 9), api.ErrStale)
		}
	}
	n := begun(t, 5)
	o := outside(t)
	for _, from := range []int{4, 5, 6, -1, 0} {
		for _, epoch := range []int{0, 1, 2} {
			for _, x := range []*chain.Member{n, o} {
				refuses(t, x, from, down(epoch, 1, setting(1)), api.ErrStale)
				refuses(t, x, from, down(epoch, 0, setting(1)), api.ErrStale)
				refuses(t, x, from, sure(epoch, 0), api.ErrStale)
				refuses(t, x, from, sure(epoch, 1), api.ErrStale)
			}
		}
	}
}

// Promise 19.3: ErrPeer, if a request does not come from the one ahead, or how far it is sure not from the one behind; at the ends there is none.
func TestHearFromOthers(t *testing.T) {
	for _, x := range []struct {
		m             *chain.Member
		ahead, behind int
	}{{placed(t, 3, 4, 5, 6, 7), 4, 6}, {head(t), -1, 6}, {tail(t), 4, -1}, {alone(t), -1, -1}, {placed(t, 0, 5), 0, -1}, {placed(t, 5, 0), -1, 0}} {
		for _, from := range []int{-1, 0, 1, 3, 4, 5, 6, 7, 15, 16, -2, math.MinInt, math.MaxInt} {
			if from != x.ahead || from < 0 {
				refuses(t, x.m, from, down(1, 1, setting(1)), api.ErrPeer)
				refuses(t, x.m, from, down(1, 0, setting(1)), api.ErrPeer)
				refuses(t, x.m, from, down(1, 2, setting(1)), api.ErrPeer)
			}
			if from != x.behind || from < 0 {
				refuses(t, x.m, from, sure(1, 0), api.ErrPeer)
				refuses(t, x.m, from, sure(1, 1), api.ErrPeer)
			}
		}
	}
}

// noLetters are bytes that are no letter, of the epoch 1.
func noLetters(t *testing.T) []string {
	t.Helper()
	good := bytesOf(setting(1))
	l := []string{
		"", "z", "N", "N\x00", number(1), text(""), list(1, 1), list(2, 1), list(1, 1, 1), list(1, 1, 0), list(2), list(1), list(0, 1, 1), list(3, 1, 1), list(0, 1, 1, good), list(3, 1, 1, good), list(-1, 1, 1, good), list(1<<32+1, 1, 1, good), list(1<<32+2, 1, 0), list(78, 1, 0), list(math.MinInt+2, 1, 0),
		list("1", 1, 1, good), list(1, "1", 1, good), list(1, 1, "1", good), list(1, 1, 1, 1), list(1, 1, good, 1), list(1, good, 1, 1), list(1, 1, 1, good, 0), list(1, 1, 1, good, ""), list(1, 1, 1, good, good), list(1, 1, 1, 1, good),
		list("2", 1, 0), list(2, "1", 0), list(2, 1, "0"), list(2, 1, ""), list(2, 1, 0, 0), list(2, 1, 0, ""), list(2, 1, 0, good), list(2, 1, 1, good),
		list(1, 1, -1, good), list(1, 1, 1<<20+1, good), list(1, 1, math.MinInt, good), list(1, 1, math.MaxInt, good), list(1, 1, 1<<32+1, good), list(2, 1, -1), list(2, 1, 1<<20+1), list(2, 1, math.MinInt), list(2, 1, math.MaxInt), list(2, 1, 1<<32),
		list(1, -1, 1, good), list(1, 1<<30+1, 1, good), list(1, math.MinInt, 1, good), list(1, math.MaxInt, 1, good), list(1, 1<<32+1, 1, good), list(2, -1, 0), list(2, 1<<30+1, 0), list(2, math.MinInt, 0), list(2, math.MaxInt, 0), list(2, 1<<32+1, 0),
		list(1, 1, 1, ""), list(1, 1, 1, "z"), list(1, 1, 1, good+good), list(1, 1, 1, good+number(0)), list(1, 1, 1, good[:len(good)-1]), list(1, 1, 1, down(1, 1, setting(1))), list(1, 1, 1, list(3, 1, 0)),
		list(1, 1, 0, ""), list(1, 1, 2, ""), list(1, 1, 2, "z"), list(1, 1, 1<<20, "z"), list(1, 2, 1, "z"), list(1, 0, 1, ""), list(2, 2, -1), list(2, 0, 1<<20+1),
		down(1, 1, sized(t, 60001)), down(1, 1, sized(t, 60002)), down(1, 1, sized(t, 200000)), down(1, 0, sized(t, 60001)), down(2, 1, sized(t, 60001)), list(1, 1, 1, long(60000)), list(1, 1, 1, long(60001)),
		long(1 << 18), long(1<<18 + 1), strings.Repeat("N\x00", 5000), strings.Repeat("N\x01\x01", 4096), list(1, 1, 1) + strings.Repeat(text(good), 100),
		"N\x02\x01\x00" + list(1, 1, good), list(2, 1) + "N\x01\x00", "N\x09" + list(1, 1, good),
	}
	for _, r := range bad() {
		l = append(l, down(1, 1, r), down(1, 0, r), down(1, 2, r), down(2, 1, r))
	}
	for _, body := range []string{down(1, 1, setting(1)), sure(1, 0), down(1, 1, asked(1, many("", 9), get("k")))} {
		for end := range len(body) {
			l = append(l, body[:end], body+body[end:end+1])
		}
		l = append(l, body+number(0), body+text(""), body+body)
	}
	return l
}

// Promise 19.3: ErrPeer of bytes that are no letter, ahead of all else, whoever hears them of whomever; nothing is changed.
func TestHearNoLetter(t *testing.T) {
	for _, m := range []*chain.Member{middle(t), head(t), tail(t), alone(t), outside(t), begun(t, 5)} {
		for _, body := range noLetters(t) {
			for _, from := range []int{4, 6, 5, -1} {
				refuses(t, m, from, body, api.ErrPeer)
			}
		}
	}
}

// Promise 19.3: the edges of what letters may be.
func TestHearEdges(t *testing.T) {
	m := tail(t)
	hears(t, m, 4, down(1, 1, sized(t, 60000)))
	is(t, m, 1, 1, 1, 1)
	hears(t, m, 4, down(1, 1<<20, setting(1)))
	hears(t, m, 4, down(1, 0, setting(1)))
	is(t, m, 1, 1, 1, 1)
	h := begun(t, 5)
	must(t, h.Load(nil, 1<<20-1))
	must(t, h.Config(1<<30, []int{5, 6}))
	hears(t, h, 6, sure(1<<30, 0))
	submits(t, h, setting(1), 1<<20)
	hears(t, h, 6, sure(1<<30, 1<<20))
	is(t, h, 1<<30, 0, 1<<20, 1<<20)
	refuses(t, h, 6, sure(1<<30-1, 0), api.ErrStale)
	refuses(t, h, 6, sure(0, 0), api.ErrStale)
}
