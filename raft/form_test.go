package raft_test

import (
	"math"
	"math/rand"
	"slices"
	"strings"
	"testing"

	"skylark/api"
	"skylark/raft"
)

// standing is a node that leads in the term 5, with something to lose by each letter, and its disk's frames.
func standing(t *testing.T) (*raft.Node, func()) {
	t.Helper()
	begun := []string{stand(4, 0), put(2, "a"), put(4, "b")}
	d := with(t, begun...)
	n := leading(t, 3, d)
	hears(t, n, 1, answer(5, 1, 1))
	n.Letters()
	return n, func() {
		t.Helper()
		is(t, n, raft.RLead, 5, 0, 0)
		onDisk(t, d, append(begun, stand(5, -1), stand(5, 0), put(5, ""))...)
		ticks(t, n, 1)
		sends(t, n, to(1, give(5, 1, 2, 0, entry(4, "b"), entry(5, ""))), to(2, give(5, 2, 4, 0, entry(5, ""))))
	}
}

// letters are some that are letters, each of a term above that of standing.
func letters() []string {
	return []string{
		ask(9, 9, 9), ask(9, 0, 0), vote(9, 0), vote(9, 1), give(9, 0, 0, 0), give(9, 3, 5, 7), give(9, 3, 5, 7, entry(6, "x")), give(9, 3, 5, 7, entry(6, "x"), entry(9, "")), answer(9, 0, 0), answer(9, 1, 3),
	}
}

// Promise 16.3: ErrPeer, if from is no other node, whatever the letter; nothing is changed.
func TestHearFromNobody(t *testing.T) {
	n, same := standing(t)
	for _, from := range []int{0, -1, 3, 4, api.MaxNodes, math.MinInt, math.MaxInt} {
		for _, body := range append(letters(), "", "z", long(api.MaxBytes+1)) {
			refuses(t, n, from, body, api.ErrPeer)
		}
	}
	same()
	for id := range 3 {
		n := opened(t, id, 3, 2, newDisk(t, 1000))
		for from := -2; from < 6; from++ {
			if from < 0 || from > 2 || from == id {
				refuses(t, n, from, vote(9, 0), api.ErrPeer)
				is(t, n, raft.RFollow, 0, -1, 0)
			}
		}
	}
}

// Promise 16.3: what is no letter is told, and nothing is changed: another list, numbers and terms that may not be.
func TestHearNoLetter(t *testing.T) {
	n, same := standing(t)
	for _, body := range []string{
		"", "z", "N", number(1)[:1], list(1), list(9), list(""), list("a"), list(1, 9), list(2, 9), list(3, 9), list(4, 9),
		list(0, 9, 1), list(0, 9, 1, 1), list(5, 9, 1), list(5, 9, 1, 1), list(-1, 9, 1, 1), list(1<<32+1, 9, 1, 1), list(1<<32+2, 9, 1), list(math.MinInt+1, 9, 1, 1), list("1", 9, 1, 1),
		list(0, 9), list(5, 9), list(0, 9, 0, 0, 0, 0), list(5, 9, 0, 0, 0, 0), list(6, 9, 1, 1), list(7, 9, 1, 1), list(78, 9, 1, 1), list(math.MaxInt, 9, 1, 1),
		list(1, 9, 1), list(1, 9, 1, 1, 1), list(1, 9, 1, "1"), list(1, 9, "1", 1), list(1, "9", 1, 1), list(1, 9, 1, 1, ""),
		list(2, 9, 1, 1), list(2, 9, "1"), list(2, "9", 1), list(2, 9, 1, ""), list(2, 9, 2), list(2, 9, -1), list(2, 9, 256), list(2, 9, 1<<32+1),
		list(3, 9, 0, 0, 0), list(3, 9, 0, 0, 0, 1), list(3, 9, 0, 0, 0, 1, 9), list(3, 9, 0, 0, 0, 1, "a"), list(3, 9, 0, 0, 0, 1, "a", 9), list(3, 9, 0, 0, 0, 1, 9, 9), list(3, 9, 0, 0, 0, 1, "9", "a"), list(3, 9, 0, 0, 0, "0"),
		list(3, 9, 0, 0, 0, 0, 9, "a"), list(3, 9, 0, 0, 0, 1, 9, "a", 9, "b"), list(3, 9, 0, 0, 0, 2, 9, "a"), list(3, 9, 0, 0, 0, 0, 0), list(3, 9, 0, 0, 0, 0, ""), list(3, 9, 0, 0, 0, -1), list(3, 9, 0, 0, 0, -1, 9, "a"), list(3, 9, 0, 0, 0, 2, 9, "a", 9), list(3, 9, 0, 0, 0, 2, 9, "a", "b", 9),
		list(3, 9, "0", 0, 0, 0), list(3, 9, 0, "0", 0, 0), list(3, 9, 0, 0, "0", 0), list(3, "9", 0, 0, 0, 0), list(3, 9, 0, 0, 0, 1<<30), list(3, 9, 0, 0, 0, math.MaxInt), list(3, 9, 0, 0, 0, math.MinInt), list(3, 9, 0, 0, 0, 1<<32),
		list(4, 9, 1), list(4, 9, 1, 1, 1), list(4, 9, 1, "1"), list(4, 9, "1", 1), list(4, "9", 1, 1), list(4, 9, 1, 1, ""), list(4, 9, 2, 1), list(4, 9, -1, 1), list(4, 9, 1<<32, 1), list(4, 9, "", ""),
	} {
		refuses(t, n, 1, body, api.ErrPeer)
	}
	for _, body := range letters() {
		refuses(t, n, 1, body+number(0), api.ErrPeer)
		refuses(t, n, 1, body+text(""), api.ErrPeer)
		refuses(t, n, 1, body+"z", api.ErrPeer)
		refuses(t, n, 1, body+body, api.ErrPeer)
		for end := range len(body) {
			refuses(t, n, 1, body[:end], api.ErrPeer)
		}
	}
	same()
}

// Promise 16.3: of each number of a letter what may not be is told, and nothing is changed: terms from 1 to api.MaxTerm, all others from 0 to 2^30.
func TestHearNumbers(t *testing.T) {
	n, same := standing(t)
	for _, x := range []int{0, -1, -5, math.MinInt, api.MaxTerm + 1, 1<<32 + 9, math.MaxInt} {
		refuses(t, n, 1, ask(x, 1, 1), api.ErrPeer)
		refuses(t, n, 1, vote(x, 1), api.ErrPeer)
		refuses(t, n, 1, give(x, 0, 0, 0), api.ErrPeer)
		refuses(t, n, 1, answer(x, 1, 1), api.ErrPeer)
		refuses(t, n, 1, give(9, 0, 0, 0, entry(x, "a")), api.ErrPeer)
		refuses(t, n, 1, give(9, 0, 0, 0, entry(1, "a"), entry(x, "a")), api.ErrPeer)
		refuses(t, n, 1, give(9, 99, 0, 0, entry(x, "a")), api.ErrPeer)
		refuses(t, n, 1, give(1, 0, 0, 0, entry(x, "a")), api.ErrPeer)
	}
	for _, x := range []int{-1, math.MinInt, 1<<30 + 1, 1 << 31, 1 << 32, math.MaxInt} {
		refuses(t, n, 1, ask(9, x, 1), api.ErrPeer)
		refuses(t, n, 1, ask(9, 1, x), api.ErrPeer)
		refuses(t, n, 1, give(9, x, 0, 0), api.ErrPeer)
		refuses(t, n, 1, give(9, 0, x, 0), api.ErrPeer)
		refuses(t, n, 1, give(9, 0, 0, x), api.ErrPeer)
		refuses(t, n, 1, answer(9, 1, x), api.ErrPeer)
		refuses(t, n, 1, answer(9, 0, x), api.ErrPeer)
	}
	same()
}

// Promise 16.3: the greatest and the least numbers that a letter can have are heard.
func TestHearEdges(t *testing.T) {
	const most = 1 << 30
	for _, body := range []string{
		ask(api.MaxTerm, most, most), ask(api.MaxTerm, 0, 0), vote(api.MaxTerm, 0), vote(api.MaxTerm, 1), answer(api.MaxTerm, 0, most), answer(api.MaxTerm, 1, most), answer(api.MaxTerm, 1, 0),
		give(api.MaxTerm, most, most, most), give(api.MaxTerm, 0, 0, most, entry(api.MaxTerm, "a")), give(api.MaxTerm, most, 0, 0, entry(1, "")),
	} {
		n := opened(t, 0, 3, 2, newDisk(t, 1000))
		hears(t, n, 2, body)
		if role, term, _, _ := n.State(); role != raft.RFollow || term != api.MaxTerm {
			t.Errorf("%q: %d %d", body, role, term)
		}
	}
	for _, body := range []string{ask(1, 0, 0), vote(1, 0), answer(1, 0, 0), give(1, 0, 0, 0, entry(1, ""))} {
		n := opened(t, 0, 3, 2, newDisk(t, 1000))
		hears(t, n, 2, body)
		if role, term, _, _ := n.State(); role != raft.RFollow || term != 1 {
			t.Errorf("%q: %d %d", body, role, term)
		}
	}
}

// Promise 16.3: a letter has as many entries as it has; chapter 1's list has no room for more than 2045.
func TestHearManyEntries(t *testing.T) {
	var all []api.Entry
	for range 2045 {
		all = append(all, entry(1, "a"))
	}
	d := newDisk(t, api.MaxBytes)
	n := opened(t, 1, 3, 2, d)
	hears(t, n, 0, give(1, 0, 0, 9, all...))
	sends(t, n, to(0, answer(1, 1, 2045)))
	is(t, n, raft.RFollow, 1, 0, 9)
	refuses(t, n, 0, give(2, 0, 0, 9, append(slices.Clone(all), entry(1, "a"))...), api.ErrPeer)
	is(t, n, raft.RFollow, 1, 0, 9)
	refuses(t, n, 0, give(2, 0, 0, 9, entry(1, long(api.MaxBytes))), api.ErrPeer)
	is(t, n, raft.RFollow, 1, 0, 9)
	has(t, d, 3, 1, -1, all...)
}

// Promise P1: whatever comes in, the calls end; a letter is heard, or nothing is changed.
func TestHearAnything(t *testing.T) {
	draw := rand.New(rand.NewSource(3))
	for range 200 {
		n := opened(t, 1, 3, 2, newDisk(t, 5000))
		for range 60 {
			body := letters()[draw.Intn(10)]
			if draw.Intn(2) == 0 {
				bytes := []byte(body)
				for range 1 + draw.Intn(2) {
					bytes[draw.Intn(len(bytes))] = byte("NT\x00\x01\x02\x03\x04\x09\xff"[draw.Intn(9)])
				}
				body = string(bytes)
			}
			was := view(n)
			e := n.Hear(draw.Intn(5)-1, body)
			if e == api.ErrPeer && len(n.Letters()) > 0 || e != api.OK && e != api.ErrPeer {
				t.Fatalf("%q: %v", body, e)
			}
			if e != api.OK && view(n) != was && !strings.HasPrefix(body, number(3)) {
				t.Fatalf("%q: %v %v", body, was, view(n))
			}
			n.Letters()
		}
	}
}

// view is all that State tells.
func view(n *raft.Node) [4]int {
	role, term, leader, committed := n.State()
	return [4]int{role, term, leader, committed}
}
