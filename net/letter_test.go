package net_test

import (
	"math"
	"slices"
	"strings"
	"testing"
	"unsafe"

	"skylark/api"
	"skylark/net"
)

// The chapter's example.
func TestExample(t *testing.T) {
	n := newNet(t, 3)
	sends(t, n, 0, 1, "a", 0)
	copies(t, n, 0, 1)
	told(t, n.Part(1, 0), api.OK)
	refuses(t, n, 0, api.ErrShape)
	told(t, n.Join(0, 1), api.OK)
	takes(t, n, net.Letter{Id: 1, From: 0, To: 1, Body: "a"})
	told(t, n.Lose(0), api.OK)
	holds(t, n)
}

// Promise 3.1: how many nodes may be: 1, api.MaxNodes; none and one more may not. None are parted, nothing is on its way.
func TestNew(t *testing.T) {
	for nodes := 1; nodes <= api.MaxNodes; nodes++ {
		n := newNet(t, nodes)
		if s := stateOf(t, n, nodes); len(s.letters) != 0 || slices.Contains(s.parted, true) {
			t.Error(nodes, s)
		}
		sends(t, n, nodes-1, 0, "x", 0)
		if _, e := n.Send(nodes, 0, "x"); e != api.ErrNode {
			t.Error(nodes, e)
		}
	}
	for _, nodes := range []int{0, -1, api.MaxNodes + 1, math.MinInt, math.MaxInt} {
		if n, e := net.New(nodes); n != nil || e != api.ErrRange {
			t.Error(nodes, n, e)
		}
	}
}

// Promise 3.1: a net of its own for each New.
func TestNetsApart(t *testing.T) {
	one, other := newNet(t, 2), newNet(t, 2)
	sends(t, one, 0, 1, "x", 0)
	told(t, one.Part(0, 1), api.OK)
	if s := stateOf(t, other, 2); len(s.letters) != 0 || slices.Contains(s.parted, true) {
		t.Error(s)
	}
	sends(t, other, 0, 1, "y", 0)
	holds(t, one, net.Letter{Id: 0, From: 0, To: 1, Body: "x"})
}

// Promise 3.1: nodes at both ends may be, in each place; those outside are refused by each call that takes nodes, ahead of all else, and change nothing.
func TestNodes(t *testing.T) {
	for _, nodes := range []int{1, 2, api.MaxNodes - 1, api.MaxNodes} {
		n := newNet(t, nodes)
		last := nodes - 1
		sends(t, n, 0, last, "x", 0)
		sends(t, n, last, 0, "y", 1)
		sends(t, n, 0, 0, "z", 2)
		sends(t, n, last, last, "", 3)
		if nodes > 2 {
			told(t, n.Part(last, 0), api.OK)
			told(t, n.Part(1, 0), api.OK)
		}
		was := stateOf(t, n, nodes)
		for _, bad := range outside(nodes) {
			for _, x := range [][2]int{{bad, 0}, {0, bad}, {bad, last}, {last, bad}, {bad, bad}, {bad, -1}, {-1, bad}} {
				refusesNodes(t, n, x[0], x[1])
			}
			if k, e := n.Drop(bad); k != 0 || e != api.ErrNode {
				t.Error(nodes, bad, k, e)
			}
		}
		if now := stateOf(t, n, nodes); !now.is(was) {
			t.Error(nodes, now, was)
		}
		sends(t, n, last, 0, "next", 4)
	}
}

// refusesNodes fails unless each call that takes two nodes refuses them, whatever else is wrong.
func refusesNodes(t *testing.T, n *net.Net, a, b int) {
	t.Helper()
	for _, body := range []string{"", "x", strings.Repeat("x", api.MaxFrame+1)} {
		id, e := n.Send(a, b, body)
		number(t, id, e, 0, api.ErrNode)
	}
	told(t, n.Part(a, b), api.ErrNode)
	told(t, n.Join(a, b), api.ErrNode)
	if p, e := n.Parted(a, b); p || e != api.ErrNode {
		t.Error(a, b, p, e)
	}
}

// Promise 3.1: a body of none, of api.MaxFrame bytes, and of one more; what is refused takes no number.
func TestBodies(t *testing.T) {
	n := newNet(t, 2)
	long := strings.Repeat("\xff", api.MaxFrame)
	sends(t, n, 0, 1, "", 0)
	for _, body := range []string{long + "x", long + long} {
		id, e := n.Send(0, 1, body)
		number(t, id, e, 0, api.ErrLong)
	}
	sends(t, n, 1, 0, long, 1)
	sends(t, n, 1, 0, long[1:], 2)
	sends(t, n, 1, 1, "\x00é\n", 3)
	holds(t, n, net.Letter{Id: 0, From: 0, To: 1}, net.Letter{Id: 1, From: 1, To: 0, Body: long},
		net.Letter{Id: 2, From: 1, To: 0, Body: long[1:]}, net.Letter{Id: 3, From: 1, To: 1, Body: "\x00é\n"})
	copies(t, n, 1, 4)
	takes(t, n, net.Letter{Id: 4, From: 1, To: 0, Body: long})
}

// full is a net of 3 nodes with api.MaxItems letters on their way, sent and copied in turn.
func full(t *testing.T) *net.Net {
	t.Helper()
	n := newNet(t, 3)
	for i := range api.MaxItems / 2 {
		sends(t, n, 0, 1, "x", 2*i)
		copies(t, n, 2*i, 2*i+1)
	}
	return n
}

// refusesMore fails unless no letter more can be sent or copied, and nothing has changed then.
func refusesMore(t *testing.T, n *net.Net, like int) {
	t.Helper()
	was := n.Letters()
	for range 2 {
		id, e := n.Send(0, 2, "")
		number(t, id, e, 0, api.ErrLong)
		id, e = n.Send(0, 2, strings.Repeat("x", api.MaxFrame+1))
		number(t, id, e, 0, api.ErrLong)
		id, e = n.Copy(like)
		number(t, id, e, 0, api.ErrLong)
		id, e = n.Send(3, 0, "")
		number(t, id, e, 0, api.ErrNode)
		id, e = n.Copy(-1)
		number(t, id, e, 0, api.ErrNone)
	}
	if !slices.Equal(n.Letters(), was) {
		t.Error("a refused letter is on its way")
	}
}

// Promises 3.1 and 3.2: api.MaxItems letters on their way, and one more, by Send and by Copy; one less, whichever way it went, and there is room for one again.
func TestMostLetters(t *testing.T) {
	n := full(t)
	if k := len(n.Letters()); k != api.MaxItems {
		t.Fatal(k)
	}
	refusesMore(t, n, 7)
	told(t, n.Lose(0), api.OK)
	sends(t, n, 1, 2, "s", api.MaxItems)
	refusesMore(t, n, 7)
	told(t, n.Lose(api.MaxItems-1), api.OK)
	copies(t, n, 7, api.MaxItems+1)
	refusesMore(t, n, 7)
	takes(t, n, net.Letter{Id: 9, From: 0, To: 1, Body: "x"})
	copies(t, n, 7, api.MaxItems+2)
	refusesMore(t, n, 7)
	k, e := n.Drop(2)
	number(t, k, e, 1, api.OK)
	sends(t, n, 2, 2, "", api.MaxItems+3)
	refusesMore(t, n, 7)
	k, e = n.Drop(0)
	number(t, k, e, api.MaxItems-1, api.OK)
	holds(t, n, net.Letter{Id: api.MaxItems + 3, From: 2, To: 2})
	copies(t, n, api.MaxItems+3, api.MaxItems+4)
}

// Promise 3.1: parted nodes may send too, and letters that wait take up room.
func TestFullOfWaiting(t *testing.T) {
	n := full(t)
	told(t, n.Part(1, 0), api.OK)
	refuses(t, n, 0, api.ErrShape)
	refusesMore(t, n, 0)
	told(t, n.Lose(0), api.OK)
	sends(t, n, 0, 1, "y", api.MaxItems)
	refusesMore(t, n, 1)
}

// Promises 3.2 and 3.4: no number of a letter on its way: not yet given, gone by each way, or none at all.
func TestNone(t *testing.T) {
	n := newNet(t, 3)
	none := func(ids ...int) {
		t.Helper()
		was := stateOf(t, n, 3)
		for _, id := range ids {
			refuses(t, n, id, api.ErrNone)
			told(t, n.Lose(id), api.ErrNone)
			got, e := n.Copy(id)
			number(t, got, e, 0, api.ErrNone)
		}
		if !stateOf(t, n, 3).is(was) {
			t.Error(ids)
		}
	}
	none(0, 1, -1, math.MinInt, math.MaxInt)
	for i := range 4 {
		sends(t, n, i%2, 1, "x", i)
	}
	none(-1, 4, math.MinInt, math.MaxInt)
	takes(t, n, net.Letter{Id: 0, From: 0, To: 1, Body: "x"})
	none(0, 4)
	told(t, n.Lose(3), api.OK)
	none(0, 3, 4)
	k, e := n.Drop(0)
	number(t, k, e, 1, api.OK)
	told(t, n.Part(0, 1), api.OK)
	none(0, 2, 3, 4)
	copies(t, n, 1, 4)
	none(0, 2, 3, 5)
	holds(t, n, net.Letter{Id: 1, From: 1, To: 1, Body: "x"}, net.Letter{Id: 4, From: 1, To: 1, Body: "x"})
}

// Promises 3.1 and 3.2: letters stand in the order in which they were sent, copies last, whichever go from among them.
func TestOrder(t *testing.T) {
	a, b, c := net.Letter{Id: 0, From: 0, To: 1, Body: "a"}, net.Letter{Id: 1, From: 2, To: 0, Body: "b"}, net.Letter{Id: 2, From: 1, To: 1, Body: "c"}
	copied := net.Letter{Id: 3, From: 0, To: 1, Body: "a"}
	for i, x := range []struct {
		gone []int
		want []net.Letter
	}{
		{nil, []net.Letter{a, b, c, copied}},
		{[]int{0}, []net.Letter{b, c, copied}},
		{[]int{1}, []net.Letter{a, c, copied}},
		{[]int{3, 0}, []net.Letter{b, c}},
		{[]int{2, 1}, []net.Letter{a, copied}},
		{[]int{3, 1, 0}, []net.Letter{c}},
		{[]int{0, 1, 2, 3}, nil},
	} {
		for way := range 2 {
			n := newNet(t, 3)
			for _, l := range []net.Letter{a, b, c} {
				sends(t, n, l.From, l.To, l.Body, l.Id)
			}
			copies(t, n, 0, 3)
			all := n.Letters()
			for _, id := range x.gone {
				if way == 0 {
					told(t, n.Lose(id), api.OK)
				} else {
					takes(t, n, all[id])
				}
			}
			if got := n.Letters(); !slices.Equal(got, x.want) {
				t.Error(i, way, got)
			}
			sends(t, n, 2, 2, "new", 4)
			holds(t, n, append(slices.Clone(x.want), net.Letter{Id: 4, From: 2, To: 2, Body: "new"})...)
		}
	}
}

// Promise 3.2: a copy is one like it, but for its number; it stays when the first one goes, and may be copied itself.
func TestCopyOfCopy(t *testing.T) {
	n := newNet(t, 3)
	sends(t, n, 2, 0, "body", 0)
	sends(t, n, 0, 0, "", 1)
	copies(t, n, 0, 2)
	told(t, n.Lose(0), api.OK)
	copies(t, n, 2, 3)
	copies(t, n, 1, 4)
	takes(t, n, net.Letter{Id: 2, From: 2, To: 0, Body: "body"})
	holds(t, n, net.Letter{Id: 1, From: 0, To: 0}, net.Letter{Id: 3, From: 2, To: 0, Body: "body"}, net.Letter{Id: 4, From: 0, To: 0})
}

// Promise 3.4: each number is one letter's, rising from 0 on, though letters go, also all of them, and also among copies.
func TestNumbers(t *testing.T) {
	n := newNet(t, 2)
	next := 0
	for range 50 {
		sends(t, n, 0, 1, "x", next)
		copies(t, n, next, next+1)
		copies(t, n, next+1, next+2)
		told(t, n.Lose(next+2), api.OK)
		sends(t, n, 1, 1, "y", next+3)
		takes(t, n, net.Letter{Id: next + 3, From: 1, To: 1, Body: "y"})
		k, e := n.Drop(0)
		number(t, k, e, 2, api.OK)
		holds(t, n)
		next += 4
	}
}

// Promise 3.2: all letters from a node and to it, each counted once, and no others.
func TestDrop(t *testing.T) {
	for node, want := range []int{5, 4, 3, 0} {
		n := newNet(t, 4)
		var left []net.Letter
		for i, x := range [][2]int{{0, 1}, {0, 0}, {1, 2}, {1, 1}, {2, 0}, {0, 2}, {1, 0}} {
			l := net.Letter{Id: i, From: x[0], To: x[1], Body: string(rune('a' + i))}
			sends(t, n, l.From, l.To, l.Body, i)
			if l.From != node && l.To != node {
				left = append(left, l)
			}
		}
		for _, k := range []int{want, 0} {
			got, e := n.Drop(node)
			number(t, got, e, k, api.OK)
			holds(t, n, left...)
		}
		sends(t, n, node, node, "new", 7)
	}
}

// R4: what Letters answers shares nothing with what is kept, spare room too, nor with what it answers else.
func TestLettersAreApart(t *testing.T) {
	n := newNet(t, 2)
	if l := n.Letters(); len(l) != 0 {
		t.Error(l)
	}
	for i := range 5 {
		sends(t, n, 0, 1, "x", i)
	}
	told(t, n.Lose(4), api.OK)
	want := make([]net.Letter, 4)
	for i := range want {
		want[i] = net.Letter{Id: i, From: 0, To: 1, Body: "x"}
	}
	one, other := n.Letters(), n.Letters()
	clear(one[:cap(one)])
	if !slices.Equal(other, want) {
		t.Error(other)
	}
	holds(t, n, want...)
	other = n.Letters()
	spoilt := append(other, net.Letter{Id: 99, From: 9, To: 9})
	clear(spoilt)
	sends(t, n, 0, 1, "new", 5)
	holds(t, n, append(want, net.Letter{Id: 5, From: 0, To: 1, Body: "new"})...)
	told(t, n.Lose(0), api.OK)
	was := n.Letters()
	kept := slices.Clone(was)
	told(t, n.Lose(2), api.OK)
	if !slices.Equal(was, kept) {
		t.Error(was)
	}
}

// R4: bytes are those of one alone: of what was handed in, of each answer, and of copies.
func TestBytesAreApart(t *testing.T) {
	n := newNet(t, 2)
	body := strings.Repeat("x", 100)
	sends(t, n, 0, 1, body, 0)
	copies(t, n, 0, 1)
	bodies := []string{body}
	for range 2 {
		for _, l := range n.Letters() {
			bodies = append(bodies, l.Body)
		}
	}
	for id := range 2 {
		l, _ := n.Take(id)
		bodies = append(bodies, l.Body)
	}
	for i, one := range bodies {
		for _, other := range bodies[:i] {
			if one != other || unsafe.StringData(one) == unsafe.StringData(other) {
				t.Error(i)
			}
		}
	}
}
