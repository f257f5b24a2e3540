package admin_test

import (
	"fmt"
	"slices"
	"strings"
	"testing"

	"skylark/admin"
	"skylark/api"
	"skylark/layout"
)

// Commands of each kind.

func made(list ...int) api.Cmd {
	return api.Cmd{Kind: api.CMake, List: list}
}

func join(chain, brick int) api.Cmd {
	return api.Cmd{Kind: api.CJoin, Chain: chain, Brick: brick}
}

func leave(brick int) api.Cmd {
	return api.Cmd{Kind: api.CLeave, Brick: brick}
}

func down(brick int) api.Cmd {
	return api.Cmd{Kind: api.CDown, Brick: brick}
}

func up(brick int) api.Cmd {
	return api.Cmd{Kind: api.CUp, Brick: brick}
}

func repaired(brick, epoch int) api.Cmd {
	return api.Cmd{Kind: api.CRepaired, Brick: brick, Epoch: epoch}
}

func changed(weights ...int) api.Cmd {
	return api.Cmd{Kind: api.CChange, List: weights}
}

func moved(cursor string) api.Cmd {
	return api.Cmd{Kind: api.CMoved, Cursor: cursor}
}

func done() api.Cmd {
	return api.Cmd{Kind: api.CDone}
}

// bricks makes a list look like one.
func bricks(l ...int) []int {
	return l
}

func newAdmin(t *testing.T, many int) *admin.Admin {
	t.Helper()
	a, e := admin.New(many)
	if a == nil || e != api.OK {
		t.Fatal(many, a, e)
	}
	return a
}

// behind is an admin of so many bricks that did those commands.
func behind(t *testing.T, many int, cmds ...api.Cmd) *admin.Admin {
	t.Helper()
	a := newAdmin(t, many)
	does(t, a, cmds...)
	return a
}

// does fails unless no command is refused.
func does(t *testing.T, a *admin.Admin, cmds ...api.Cmd) {
	t.Helper()
	for _, c := range cmds {
		if e := a.Do(c); e != api.OK {
			t.Fatalf("%s: %v", brief(c), e)
		}
	}
}

// refuses fails unless each command is refused with that error, and changes nothing that is told.
func refuses(t *testing.T, a *admin.Admin, want api.Errno, cmds ...api.Cmd) {
	t.Helper()
	for _, c := range cmds {
		was := told(a)
		if e := a.Do(c); e != want {
			t.Errorf("%s: %v, not %v", brief(c), e, want)
		}
		if now := told(a); now != was {
			t.Errorf("%s: %s, not %s", brief(c), now, was)
		}
	}
}

// told is all that an admin tells.
func told(a *admin.Admin) string {
	var s strings.Builder
	for i, c := range a.Chains() {
		fmt.Fprintf(&s, "chain %d: %d %v %v; ", i, c.Epoch, c.Order, c.Repair)
	}
	for b := 0; ; b++ {
		state, chain, e := a.Brick(b)
		if e != api.OK {
			break
		}
		fmt.Fprintf(&s, "%d/%d ", state, chain)
	}
	l, ok := a.Layout()
	c, goes := a.Change()
	fmt.Fprintf(&s, "%v %v %q %v;", l, ok, fmt.Sprint(c), goes)
	for _, key := range []string{"", "a", "key", "m", "z"} {
		o, e := a.Owner(key)
		fmt.Fprintf(&s, " %d/%d", o, e)
	}
	return s.String()
}

// chain fails unless the chain of a number stands so.
func chain(t *testing.T, a *admin.Admin, i, epoch int, order, repair []int) {
	t.Helper()
	l := a.Chains()
	if i >= len(l) || l[i].Epoch != epoch || !slices.Equal(l[i].Order, order) || !slices.Equal(l[i].Repair, repair) {
		t.Errorf("%v, not at %d: %d %v %v", l, i, epoch, order, repair)
	}
}

// brick fails unless a brick stands so.
func brick(t *testing.T, a *admin.Admin, b, state, chain int) {
	t.Helper()
	if s, c, e := a.Brick(b); s != state || c != chain || e != api.OK {
		t.Errorf("brick %d: %d %d %v, not %d %d", b, s, c, e, state, chain)
	}
}

// lies fails unless the layout is that one.
func lies(t *testing.T, a *admin.Admin, version int, weights ...int) {
	t.Helper()
	if l, ok := a.Layout(); !ok || !layout.Equal(l, api.Layout{Version: version, Weights: weights}) {
		t.Errorf("%v %v, not %d %v", l, ok, version, weights)
	}
}

// noChange fails unless no change goes on.
func noChange(t *testing.T, a *admin.Admin) {
	t.Helper()
	if c, ok := a.Change(); ok || !sameChange(c, layout.Change{}) {
		t.Errorf("%v %v", c, ok)
	}
}

// goesOn fails unless the change that goes on is that one.
func goesOn(t *testing.T, a *admin.Admin, was, will api.Layout, cursor string) {
	t.Helper()
	want := layout.Change{Was: was, Will: will, Cursor: cursor}
	if c, ok := a.Change(); !ok || !sameChange(c, want) {
		t.Errorf("%v %v, not %v", c, ok, want)
	}
}

func sameChange(a, b layout.Change) bool {
	return layout.Equal(a.Was, b.Was) && layout.Equal(a.Will, b.Will) && a.Cursor == b.Cursor && a.Done == b.Done
}

func lay(version int, weights ...int) api.Layout {
	return api.Layout{Version: version, Weights: weights}
}

// brief is the beginning of what something looks like.
func brief(x any) string {
	s := fmt.Sprintf("%+v", x)
	return s[:min(len(s), 300)]
}

// long is a text of so many bytes.
func long(size int) string {
	return strings.Repeat("c", size)
}

// owns fails unless a key lies on that chain.
func owns(t *testing.T, a *admin.Admin, key string, want int) {
	t.Helper()
	if o, e := a.Owner(key); o != want || e != api.OK {
		t.Errorf("%.20q: %d %v, not %d", key, o, e, want)
	}
}
