package layout_test

import (
	"testing"

	"skylark/api"
	"skylark/layout"
)

// Promise 7.1: a layout may be, if its version and its weights may, up to their edges.
func TestCheck(t *testing.T) {
	for _, l := range []api.Layout{
		lay(1, 1), lay(api.MaxEpoch, 1), lay(77, 0, 1), lay(2, 128), lay(2, 1, 0, 0, 0, 0, 0, 0, 0), lay(2, 128, 128, 128, 128, 128, 128, 128, 128),
	} {
		if e := layout.Check(l); e != api.OK {
			t.Error(l, e)
		}
	}
	for _, l := range badLayouts() {
		if e := layout.Check(l); e != api.ErrLayout {
			t.Error(l, e)
		}
	}
}

// Promise 7.1: layouts are the same if versions and weights are, also those that may not be.
func TestEqual(t *testing.T) {
	all := []api.Layout{
		{}, lay(1), lay(1, 1), lay(2, 1), lay(1, 2), lay(1, 1, 0), lay(1, 0, 1), lay(1, 1, 1), lay(1, 1, 0, 0), lay(1, 0),
		lay(-1, 1), lay(1, -1), lay(1<<32+1, 1), lay(1, 1<<32+1), lay(0, 1), lay(0, 0), lay(1, 1, 1, 1, 1, 1, 1, 1, 1, 1),
	}
	for i, a := range all {
		for j, b := range all {
			b.Weights = append(make([]int, 0, 20), b.Weights...)
			if got := layout.Equal(a, b); got != (i == j) {
				t.Error(a, b, got)
			}
		}
	}
	if !layout.Equal(api.Layout{Version: 3}, api.Layout{Version: 3, Weights: []int{}}) {
		t.Error("no weights: nil and empty are not the same")
	}
	w := []int{1, 2, 3}
	if layout.Equal(lay(1, w[:2]...), lay(1, w...)) || !layout.Equal(lay(1, w[:2]...), lay(1, 1, 2)) {
		t.Error("what lies behind the weights is read")
	}
}

// Promise 7.1: a change may be, if its layouts may, the version is one more, no chain goes away, and there is a cursor that may be, or the end.
func TestCheckChange(t *testing.T) {
	for _, c := range []layout.Change{
		{Was: lay(1, 1), Will: lay(2, 1)},
		{Was: lay(1, 1), Will: lay(2, 0, 1)},
		{Was: lay(1, 1, 0), Will: lay(2, 0, 1)},
		{Was: lay(api.MaxEpoch-1, 1), Will: lay(api.MaxEpoch, 1)},
		{Was: lay(5, 1), Will: lay(6, 0, 0, 0, 0, 0, 0, 0, 1)},
		{Was: lay(5, 1, 1, 1, 1, 1, 1, 1, 1), Will: lay(6, 0, 0, 0, 0, 0, 0, 0, 1)},
	} {
		for _, x := range []layout.Change{c, done(c), at(c, "a"), at(c, "\x00"), at(c, "\xff"), at(c, long(api.MaxKey))} {
			if e := x.Check(); e != api.OK {
				t.Error(x, e)
			}
		}
	}
	for _, c := range badChanges() {
		if e := c.Check(); e != api.ErrLayout {
			t.Error(c, e)
		}
	}
}

// Promise 7.1: of a change that may not be all others answer ErrLayout, and nothing beside it, ahead of what they refuse themselves.
func TestBadChanges(t *testing.T) {
	for _, c := range badChanges() {
		for _, key := range []string{"", "a", "z", long(api.MaxKey + 1)} {
			if o, e := c.Owner(key); o != 0 || e != api.ErrLayout {
				t.Error(c, key, o, e)
			}
			if x, e := c.To(key); e != api.ErrLayout || !isZero(x) {
				t.Error(c, key, x, e)
			}
		}
		for _, keys := range [][]string{nil, {"a", "b"}, {"b", "a"}, {""}} {
			for most := range 3 {
				if cursor, moves, done, e := c.Next(keys, most); cursor != "" || len(moves) != 0 || done || e != api.ErrLayout {
					t.Error(c, keys, most, cursor, moves, done, e)
				}
			}
		}
		if l, e := c.End(); e != api.ErrLayout || !layout.Equal(l, api.Layout{}) {
			t.Error(c, l, e)
		}
	}
}

// isZero tells whether a change is the zero value.
func isZero(c layout.Change) bool {
	return layout.Equal(c.Was, api.Layout{}) && layout.Equal(c.Will, api.Layout{}) && c.Cursor == "" && !c.Done
}
