package admin

import (
	"slices"

	"skylark/api"
)

// rule is how commands of a kind are done, and which parts of a command they name; of the List, whether it is of bricks or of weights.
type rule struct {
	kind            int
	chain, brick    bool
	epoch, cursor   bool
	bricks, weights bool
	do              func(a *Admin, c api.Cmd) api.Errno
}

func rules() []rule {
	return []rule{
		{kind: api.CMake, bricks: true, do: (*Admin).makeChain},
		{kind: api.CJoin, chain: true, brick: true, do: (*Admin).join},
		{kind: api.CLeave, brick: true, do: (*Admin).leave},
		{kind: api.CDown, brick: true, do: (*Admin).goDown},
		{kind: api.CUp, brick: true, do: (*Admin).comeUp},
		{kind: api.CRepaired, brick: true, epoch: true, do: (*Admin).takeRepaired},
		{kind: api.CChange, weights: true, do: (*Admin).beginChange},
		{kind: api.CMoved, cursor: true, do: (*Admin).moveOn},
		{kind: api.CDone, do: (*Admin).endChange},
	}
}

// ruleOf answers the rule of a kind, if it is one.
func ruleOf(kind int) (rule, bool) {
	all := rules()
	i := slices.IndexFunc(all, func(r rule) bool { return r.kind == kind })
	if i < 0 {
		return rule{}, false
	}
	return all[i], true
}

// namesAllOf tells whether nothing is set in a command that its kind does not name.
func (r rule) namesAllOf(c api.Cmd) bool {
	if !r.chain && c.Chain != 0 || !r.brick && c.Brick != 0 || !r.epoch && c.Epoch != 0 {
		return false
	}
	return (r.bricks || r.weights || len(c.List) == 0) && (r.cursor || c.Cursor == "")
}

// hasAllOf tells whether there are the chains and bricks that a command names.
func (a *Admin) hasAllOf(c api.Cmd, r rule) bool {
	if r.chain && !a.hasChain(c.Chain) || r.brick && !a.hasBrick(c.Brick) {
		return false
	}
	return !r.bricks || !slices.ContainsFunc(c.List, func(b int) bool { return !a.hasBrick(b) })
}
