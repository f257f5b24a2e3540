package admin_test

import (
	"slices"
	"strings"
	"testing"
	"unsafe"

	"skylark/api"
)

// roomy is a list whose spare room can be watched.
func roomy(list ...int) []int {
	return append(make([]int, 0, 40), list...)
}

// fill overwrites a list, spare room too.
func fill(list []int, n int) {
	list = list[:cap(list)]
	for i := range list {
		list[i] = n
	}
}

// Rule R4: lists and cursors that commands have are not changed and not kept.
func TestCommandsAreNotKept(t *testing.T) {
	a := newAdmin(t, 8)
	first, weights, cursor := roomy(0, 1), roomy(3, 4), strings.Repeat("m", 9)
	does(t, a, made(first...), made(7))
	does(t, a, api.Cmd{Kind: api.CChange, List: weights}, moved(cursor))
	does(t, a, join(0, 2), repaired(2, 2), join(0, 3), down(0), leave(1))
	if !slices.Equal(first[:cap(first)], roomy(0, 1)[:cap(first)]) || !slices.Equal(weights[:cap(weights)], roomy(3, 4)[:cap(weights)]) {
		t.Error(first, weights)
	}
	was := told(a)
	fill(first, 7)
	fill(weights, 7)
	if now := told(a); now != was {
		t.Error(now, was)
	}
	c, _ := a.Change()
	if unsafe.StringData(c.Cursor) == unsafe.StringData(cursor) {
		t.Error("the cursor is kept")
	}
	does(t, a, done())
	lies(t, a, 3, 3, 4)
	fill(weights, 9)
	lies(t, a, 3, 3, 4)
	does(t, a, changed(1, 1), done(), made(5))
	lies(t, a, 5, 1, 1, 16)
}

// Rule R4: weights are not kept, nor does a change share any with the layout, be it moved on or not.
func TestWeightsAreNotKept(t *testing.T) {
	a := behind(t, 4, made(0), made(1))
	weights := roomy(3, 4)
	does(t, a, api.Cmd{Kind: api.CChange, List: weights})
	fill(weights, 7)
	goesOn(t, a, lay(2, 16, 16), lay(3, 3, 4), "")
	does(t, a, done())
	lies(t, a, 3, 3, 4)
}

// Rule R4: a list that is made a chain of is not the chain's, either way.
func TestListOfMakeIsNotKept(t *testing.T) {
	a := newAdmin(t, 8)
	list := roomy(4, 5, 6)
	does(t, a, api.Cmd{Kind: api.CMake, List: list})
	fill(list, 0)
	chain(t, a, 0, 1, bricks(4, 5, 6), nil)
	list = roomy(0, 1, 2)
	does(t, a, api.Cmd{Kind: api.CMake, List: list}, down(0), join(1, 3), repaired(3, 3), up(0))
	if !slices.Equal(list[:cap(list)], roomy(0, 1, 2)[:cap(list)]) {
		t.Error(list[:cap(list)])
	}
}

// Rule R4: what lies behind a list's length is not read.
func TestSpareRoomIsNotRead(t *testing.T) {
	a := newAdmin(t, 4)
	room := []int{0, 1, 99, 99}
	does(t, a, api.Cmd{Kind: api.CMake, List: room[:2]})
	chain(t, a, 0, 1, bricks(0, 1), nil)
	does(t, a, api.Cmd{Kind: api.CJoin, Brick: 2, List: room[:0]}, api.Cmd{Kind: api.CChange, List: []int{5, -1}[:1]}, api.Cmd{Kind: api.CDone, List: []int{}})
	lies(t, a, 2, 5)
}

// Rule R4: answers share no memory with what is kept, nor with one another.
func TestAnswersApart(t *testing.T) {
	a := behind(t, 9, made(0, 1, 2), made(3), join(0, 4), join(0, 5), join(1, 6), changed(3, 4), moved("cursor"))
	was := told(a)
	l, other := a.Chains(), a.Chains()
	for _, c := range l {
		fill(c.Order, 77)
		fill(c.Repair, 77)
	}
	for i := range l[:cap(l)] {
		l[:cap(l)][i] = api.Chain{}
	}
	if !slices.Equal(other[0].Order, bricks(0, 1, 2)) || !slices.Equal(other[0].Repair, bricks(4, 5)) || !slices.Equal(other[1].Repair, bricks(6)) {
		t.Error(other)
	}
	first, _ := a.Layout()
	second, _ := a.Layout()
	fill(first.Weights, 77)
	if !slices.Equal(second.Weights, bricks(16, 16)) {
		t.Error(second)
	}
	c, _ := a.Change()
	d, _ := a.Change()
	fill(c.Was.Weights, 77)
	if !slices.Equal(d.Was.Weights, bricks(16, 16)) || !slices.Equal(c.Will.Weights, bricks(3, 4)) {
		t.Error(c, d)
	}
	fill(c.Will.Weights, 77)
	if !slices.Equal(d.Will.Weights, bricks(3, 4)) || unsafe.StringData(c.Cursor) == unsafe.StringData(d.Cursor) {
		t.Error(c, d)
	}
	if now := told(a); now != was {
		t.Error(now, was)
	}
}

// An answer stays as it was when commands come.
func TestAnswersStay(t *testing.T) {
	a := behind(t, 9, made(0, 1, 2), join(0, 4), join(0, 5), changed(3), moved("a"))
	l := a.Chains()
	was, _ := a.Layout()
	c, _ := a.Change()
	does(t, a, down(0), repaired(5, 4), leave(4), moved("b"), done(), made(7), changed(9, 9))
	if !slices.Equal(l[0].Order, bricks(0, 1, 2)) || !slices.Equal(l[0].Repair, bricks(4, 5)) || l[0].Epoch != 3 {
		t.Error(l)
	}
	if was.Version != 1 || !slices.Equal(was.Weights, bricks(16)) {
		t.Error(was)
	}
	if c.Cursor != "a" || !slices.Equal(c.Was.Weights, bricks(16)) || !slices.Equal(c.Will.Weights, bricks(3)) {
		t.Error(c)
	}
}
