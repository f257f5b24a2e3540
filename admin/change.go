package admin

import (
	"slices"
	"strings"

	"skylark/api"
	"skylark/layout"
)

// firstWeight is the weight of a chain that was just made.
const firstWeight = 16

// layChain gives the last chain a weight, by the next layout.
func (a *Admin) layChain() {
	a.layout.Version++
	a.layout.Weights = append(a.layout.Weights, firstWeight)
}

// beginChange begins a change to other weights.
func (a *Admin) beginChange(c api.Cmd) api.Errno {
	if a.isChanging {
		return api.ErrPlan
	}
	if a.layout.Version == api.MaxEpoch {
		return api.ErrLong
	}
	will := api.Layout{Version: a.layout.Version + 1, Weights: c.List}
	if layout.Check(will) != api.OK || len(c.List) != len(a.chains) {
		return api.ErrLayout
	}
	a.change, a.isChanging = copiedChange(layout.Change{Was: a.layout, Will: will}), true
	return api.OK
}

// moveOn lets keys below a cursor lie as the new layout says.
func (a *Admin) moveOn(c api.Cmd) api.Errno {
	if !a.isChanging || a.change.Done {
		return api.ErrPlan
	}
	next, e := a.change.To(c.Cursor)
	if e != api.OK {
		return e
	}
	a.change = next
	return api.OK
}

// endChange lets all keys lie as the new layout says.
func (a *Admin) endChange(api.Cmd) api.Errno {
	if !a.isChanging {
		return api.ErrPlan
	}
	a.layout, a.change, a.isChanging = a.change.Will, layout.Change{}, false
	return api.OK
}

// copiedLayout answers a layout that shares no memory with the one given.
func copiedLayout(l api.Layout) api.Layout {
	return api.Layout{Version: l.Version, Weights: slices.Clone(l.Weights)}
}

// copiedChange answers a change that shares no memory with the one given.
func copiedChange(c layout.Change) layout.Change {
	return layout.Change{Was: copiedLayout(c.Was), Will: copiedLayout(c.Will), Cursor: strings.Clone(c.Cursor), Done: c.Done}
}
