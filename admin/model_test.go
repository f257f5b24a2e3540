package admin_test

import (
	"fmt"
	"math"
	"math/rand"
	"slices"
	"strings"
	"testing"

	"skylark/admin"
	"skylark/api"
	"skylark/layout"
	"skylark/ring"
)

// model is an admin as simple as can be, by the chapter's words: where a brick stands is looked up in the chains' lists.
type model struct {
	states, chains []int
	epochs         []int
	order, repair  [][]int
	version        int
	weights, will  []int
	cursor         string
	goes           bool
}

func newModel(many int) *model {
	m := &model{states: make([]int, many), chains: make([]int, many)}
	for b := range many {
		m.chains[b] = -1
	}
	return m
}

func (m *model) isBrick(b int) bool { return 0 <= b && b < len(m.states) }

// onlyIn tells whether a brick stands alone in its chain's order.
func (m *model) onlyIn(b int) bool { return slices.Equal(m.order[m.chains[b]], []int{b}) }

// out takes a brick out of a list.
func out(list []int, b int) []int {
	var l []int
	for _, x := range list {
		if x != b {
			l = append(l, x)
		}
	}
	return l
}

// do does a command: first what is wrong is looked for, then it is done.
func (m *model) do(c api.Cmd) api.Errno {
	if e := m.wrong(c); e != api.OK {
		return e
	}
	b, at := c.Brick, c.Chain
	switch c.Kind {
	case api.CMake:
		for _, b := range c.List {
			m.states[b], m.chains[b] = api.BOk, len(m.epochs)
		}
		m.epochs, m.order, m.repair = append(m.epochs, 1), append(m.order, slices.Clone(c.List)), append(m.repair, nil)
		m.version, m.weights = m.version+1, append(slices.Clone(m.weights), 16)
		return api.OK
	case api.CChange:
		m.goes, m.will, m.cursor = true, slices.Clone(c.List), ""
		return api.OK
	case api.CMoved:
		m.cursor = c.Cursor
		return api.OK
	case api.CDone:
		m.goes, m.weights, m.version = false, m.will, m.version+1
		return api.OK
	case api.CJoin:
		m.states[b], m.chains[b] = api.BRepair, at
		m.repair[at] = append(m.repair[at], b)
	}
	at = m.chains[b]
	m.epochs[at]++
	switch c.Kind {
	case api.CLeave:
		m.order[at], m.repair[at] = out(m.order[at], b), out(m.repair[at], b)
		m.states[b], m.chains[b] = api.BFree, -1
	case api.CDown:
		m.states[b] = api.BDown
		if len(m.order[at]) > 1 {
			m.order[at] = out(m.order[at], b)
		}
		m.repair[at] = out(m.repair[at], b)
	case api.CUp:
		m.states[b] = api.BOk
		if !slices.Contains(m.order[at], b) {
			m.states[b] = api.BRepair
			m.repair[at] = append(m.repair[at], b)
		}
	case api.CRepaired:
		m.states[b] = api.BOk
		m.order[at], m.repair[at] = append(m.order[at], b), out(m.repair[at], b)
	}
	return api.OK
}

// wrong answers why a command may not come.
func (m *model) wrong(c api.Cmd) api.Errno {
	names := map[int]string{1: "L", 2: "CB", 3: "B", 4: "B", 5: "B", 6: "BE", 7: "L", 8: "K", 9: "-"}[c.Kind]
	unnamed := ""
	if c.Chain != 0 {
		unnamed += "C"
	}
	if c.Brick != 0 {
		unnamed += "B"
	}
	if c.Epoch != 0 {
		unnamed += "E"
	}
	if len(c.List) > 0 {
		unnamed += "L"
	}
	if c.Cursor != "" {
		unnamed += "K"
	}
	if names == "" || strings.Trim(unnamed, names) != "" {
		return api.ErrBad
	}
	if strings.Contains(names, "B") && !m.isBrick(c.Brick) || c.Kind == api.CJoin && (c.Chain < 0 || c.Chain >= len(m.epochs)) {
		return api.ErrRange
	}
	if strings.Contains(names, "B") {
		return m.wrongBrick(c)
	}
	if c.Kind == api.CMake {
		return m.wrongMake(c.List)
	}
	return m.wrongLayout(c)
}

func (m *model) wrongBrick(c api.Cmd) api.Errno {
	b := c.Brick
	may := false
	switch m.states[b] {
	case api.BFree:
		may = c.Kind == api.CJoin
	case api.BRepair:
		may = c.Kind == api.CLeave || c.Kind == api.CDown || c.Kind == api.CRepaired && m.states[m.order[m.chains[b]][0]] != api.BDown
	case api.BOk:
		may = c.Kind == api.CDown || c.Kind == api.CLeave && !m.onlyIn(b)
	case api.BDown:
		may = c.Kind == api.CUp || c.Kind == api.CLeave && !m.onlyIn(b)
	}
	if !may {
		return api.ErrPlan
	}
	if c.Kind == api.CRepaired && c.Epoch != m.epochs[m.chains[b]] {
		return api.ErrStale
	}
	return api.OK
}

func (m *model) wrongMake(list []int) api.Errno {
	for _, b := range list {
		if !m.isBrick(b) {
			return api.ErrRange
		}
	}
	seen := map[int]int{}
	for _, b := range list {
		seen[b]++
		if seen[b] > 1 || m.states[b] != api.BFree {
			return api.ErrPlan
		}
	}
	if len(list) == 0 || len(list) > 8 {
		return api.ErrPlan
	}
	if len(m.epochs) == api.MaxChains || m.goes {
		return api.ErrLong
	}
	return api.OK
}

func (m *model) wrongLayout(c api.Cmd) api.Errno {
	if m.goes != (c.Kind != api.CChange) {
		return api.ErrPlan
	}
	if c.Kind == api.CMoved && (c.Cursor < m.cursor || len(c.Cursor) > api.MaxKey) {
		return api.ErrRange
	}
	if c.Kind == api.CChange && (ring.Check(c.List) != api.OK || len(c.List) != len(m.epochs)) {
		return api.ErrLayout
	}
	return api.OK
}

// told is what an admin like the model tells.
func (m *model) told() string {
	var s strings.Builder
	for i := range m.epochs {
		fmt.Fprintf(&s, "chain %d: %d %v %v; ", i, m.epochs[i], m.order[i], m.repair[i])
	}
	for b := range m.states {
		fmt.Fprintf(&s, "%d/%d ", m.states[b], m.chains[b])
	}
	l, c := lay(m.version, m.weights...), layout.Change{}
	if m.goes {
		c = layout.Change{Was: l, Will: lay(m.version+1, m.will...), Cursor: m.cursor}
	}
	fmt.Fprintf(&s, "%v %v %q %v;", l, len(m.epochs) > 0, fmt.Sprint(c), m.goes)
	for _, key := range []string{"", "a", "key", "m", "z"} {
		o, e := 0, api.ErrPlan
		if len(m.epochs) > 0 {
			weights := m.weights
			if m.goes && key < m.cursor {
				weights = m.will
			}
			o, e = ring.Of(weights, key)
		}
		fmt.Fprintf(&s, " %d/%d", o, e)
	}
	return s.String()
}

// drawnCmd is a command of any kind, with numbers around those that there are, and some far from them.
func drawnCmd(draw *rand.Rand, a *admin.Admin, many int) api.Cmd {
	kinds := []int{1, 2, 2, 3, 4, 4, 5, 5, 5, 6, 6, 6, 6, 7, 8, 9, draw.Intn(14) - 2}
	kind := kinds[draw.Intn(len(kinds))]
	b := draw.Intn(many+2) - draw.Intn(2)
	l := a.Chains()
	c := api.Cmd{Kind: kind}
	switch kind {
	case api.CMake:
		c.List = draw.Perm(many)[:min(many, draw.Intn(4))]
	case api.CJoin:
		c.Chain, c.Brick = draw.Intn(len(l)+1), b
	case api.CLeave, api.CDown, api.CUp:
		c.Brick = b
	case api.CRepaired:
		c.Brick = b
		if _, at, e := a.Brick(b); e == api.OK && at >= 0 {
			c.Epoch = l[at].Epoch - draw.Intn(5)/4
		}
	case api.CChange:
		c.List = make([]int, max(0, len(l)-draw.Intn(4)/3))
		for i := range c.List {
			c.List[i] = draw.Intn(20)
		}
	case api.CMoved:
		c.Cursor = strings.Repeat(string(rune('a'+draw.Intn(26))), draw.Intn(3))
	}
	if draw.Intn(20) == 0 {
		spoil(draw, &c)
	}
	return c
}

// spoil makes a part of a command what it should not be.
func spoil(draw *rand.Rand, c *api.Cmd) {
	n := []int{-1, 1, 8, 16, 99, math.MinInt, math.MaxInt}[draw.Intn(7)]
	switch draw.Intn(6) {
	case 0:
		c.Chain = n
	case 1:
		c.Brick = n
	case 2:
		c.Epoch = n
	case 3:
		c.List = append(c.List, n)
	case 4:
		c.Cursor = long(draw.Intn(70))
	case 5:
		c.List = make([]int, draw.Intn(12))
	}
}

// Promises 18.1 and 18.2: drawn commands, held to the model behind each.
func TestModel(t *testing.T) {
	draw := rand.New(rand.NewSource(18))
	counts := map[string]int{}
	for run := range 300 {
		many := 1 + run%api.MaxNodes
		a, m := newAdmin(t, many), newModel(many)
		for step := range 150 {
			c := drawnCmd(draw, a, many)
			want := m.do(c)
			if e := a.Do(c); e != want {
				t.Fatalf("run %d step %d: %s: %v, not %v: %s", run, step, brief(c), e, want, told(a))
			}
			counts[fmt.Sprint(c.Kind, " ", int(want))]++
			if got, want := told(a), m.told(); got != want {
				t.Fatalf("run %d step %d: %s: %s, not %s", run, step, brief(c), got, want)
			}
		}
	}
	for _, often := range []string{"1 0", "1 1", "1 2", "1 80", "1 180", "2 0", "2 1", "2 180", "3 0", "3 180", "4 0", "4 180", "5 0", "5 180", "6 0", "6 150", "6 180", "7 0", "7 70", "7 180", "8 0", "8 1", "8 180", "9 0", "9 80", "9 180"} {
		if counts[often] < 10 {
			t.Error(often, counts[often])
		}
	}
}
