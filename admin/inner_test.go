package admin

import (
	"testing"

	"skylark/api"
)

// These states are too far to be come to by commands within a test.

// stood is an admin whose chain 0 has a head 0, a tail 1, a brick 2 that is repaired, a brick 3 that is down, and that epoch.
func stood(t *testing.T, epoch int) *Admin {
	t.Helper()
	a, e := New(6)
	if e != api.OK {
		t.Fatal(e)
	}
	for _, c := range []api.Cmd{{Kind: api.CMake, List: []int{0, 1}}, {Kind: api.CJoin, Brick: 2}, {Kind: api.CJoin, Brick: 3}, {Kind: api.CDown, Brick: 3}} {
		if e := a.Do(c); e != api.OK {
			t.Fatal(c, e)
		}
	}
	a.chains[0].Epoch = epoch
	return a
}

// turns are commands that raise the chain's epoch.
func turns(epoch int) []api.Cmd {
	return []api.Cmd{
		{Kind: api.CJoin, Brick: 4}, {Kind: api.CLeave, Brick: 0}, {Kind: api.CLeave, Brick: 2}, {Kind: api.CLeave, Brick: 3},
		{Kind: api.CDown, Brick: 1}, {Kind: api.CDown, Brick: 2}, {Kind: api.CUp, Brick: 3}, {Kind: api.CRepaired, Brick: 2, Epoch: epoch},
	}
}

// Promise 18.1: ErrLong, if an epoch would be above api.MaxEpoch; nothing is changed.
func TestLastEpoch(t *testing.T) {
	for _, c := range turns(api.MaxEpoch) {
		a := stood(t, api.MaxEpoch)
		if e := a.Do(c); e != api.ErrLong {
			t.Error(c, e)
		}
		was := stood(t, api.MaxEpoch)
		for b := range 6 {
			if a.bricks[b] != was.bricks[b] {
				t.Error(c, b, a.bricks[b])
			}
		}
		if x := a.Chains()[0]; x.Epoch != api.MaxEpoch || len(x.Order) != 2 || len(x.Repair) != 1 {
			t.Error(c, x)
		}
	}
	for _, c := range turns(api.MaxEpoch - 1) {
		a := stood(t, api.MaxEpoch-1)
		if e := a.Do(c); e != api.OK || a.Chains()[0].Epoch != api.MaxEpoch {
			t.Error(c, e, a.Chains())
		}
	}
	a := stood(t, api.MaxEpoch)
	for _, c := range []api.Cmd{{Kind: api.CJoin, Brick: 0}, {Kind: api.CLeave, Brick: 4}, {Kind: api.CDown, Brick: 3}, {Kind: api.CUp, Brick: 0}, {Kind: api.CRepaired, Brick: 1, Epoch: api.MaxEpoch}} {
		if e := a.Do(c); e != api.ErrPlan {
			t.Error(c, e)
		}
	}
	if e := a.Do(api.Cmd{Kind: api.CRepaired, Brick: 2, Epoch: api.MaxEpoch - 1}); e != api.ErrStale {
		t.Error(e)
	}
	if e := a.Do(api.Cmd{Kind: api.CMake, List: []int{4}}); e != api.OK {
		t.Error(e)
	}
}

// Promise 18.1: ErrLong, if a version would be above api.MaxEpoch; nothing is changed.
func TestLastVersion(t *testing.T) {
	change, list := api.Cmd{Kind: api.CChange, List: []int{1}}, api.Cmd{Kind: api.CMake, List: []int{4}}
	for _, c := range []api.Cmd{change, list, {Kind: api.CChange, List: []int{-1}}, {Kind: api.CChange}} {
		a := stood(t, 5)
		a.layout.Version = api.MaxEpoch
		if e := a.Do(c); e != api.ErrLong || len(a.chains) != 1 || a.layout.Version != api.MaxEpoch || len(a.layout.Weights) != 1 || a.isChanging || a.bricks[4].state != api.BFree {
			t.Error(c, e)
		}
	}
	for _, c := range []api.Cmd{change, list} {
		a := stood(t, 5)
		a.layout.Version = api.MaxEpoch - 1
		if e := a.Do(c); e != api.OK {
			t.Error(c, e)
		}
	}
	a := stood(t, 5)
	a.layout.Version = api.MaxEpoch - 1
	a.Do(change)
	if e := a.Do(api.Cmd{Kind: api.CDone}); e != api.OK || a.layout.Version != api.MaxEpoch {
		t.Error(e, a.layout)
	}
	a.layout.Version = api.MaxEpoch
	if e := a.Do(api.Cmd{Kind: api.CMake, List: []int{0}}); e != api.ErrPlan {
		t.Error(e)
	}
}

// Promise 18.1: CMoved tells ErrPlan of a change that is Done, which no command makes it.
func TestMovedDone(t *testing.T) {
	a := stood(t, 5)
	a.Do(api.Cmd{Kind: api.CChange, List: []int{1}})
	a.change.Done = true
	if e := a.Do(api.Cmd{Kind: api.CMoved, Cursor: "k"}); e != api.ErrPlan {
		t.Error(e)
	}
	if e := a.Do(api.Cmd{Kind: api.CDone}); e != api.OK {
		t.Error(e)
	}
}
