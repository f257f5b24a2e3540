package net

import (
	"testing"

	"skylark/api"
)

// Promise 3.1: as many letters as 2^40 are sent and copied, and no more, be there room or not. It is tested from within, for no run of calls comes so far.
func TestMostSent(t *testing.T) {
	for _, byCopy := range []bool{false, true} {
		n, _ := New(2)
		n.Send(0, 1, "x")
		n.sent = 1<<40 - 2
		if id, e := n.Send(1, 0, "y"); id != 1<<40-2 || e != api.OK {
			t.Error(id, e)
		}
		last := func() (int, api.Errno) { return n.Send(1, 0, "y") }
		if byCopy {
			last = func() (int, api.Errno) { return n.Copy(1<<40 - 2) }
		}
		if id, e := last(); id != 1<<40-1 || e != api.OK {
			t.Error(id, e)
		}
		for range 3 {
			if id, e := n.Send(0, 1, ""); id != 0 || e != api.ErrLong {
				t.Error(id, e)
			}
			if id, e := n.Copy(1<<40 - 1); id != 0 || e != api.ErrLong {
				t.Error(id, e)
			}
			if id, e := n.Send(2, 1, ""); id != 0 || e != api.ErrNode {
				t.Error(id, e)
			}
			if id, e := n.Copy(1 << 40); id != 0 || e != api.ErrNone {
				t.Error(id, e)
			}
			n.Lose(0)
		}
		if l, e := n.Take(1<<40 - 1); l != (Letter{Id: 1<<40 - 1, From: 1, To: 0, Body: "y"}) || e != api.OK {
			t.Error(l, e)
		}
		if l := n.Letters(); len(l) != 1 {
			t.Error(l)
		}
	}
}
