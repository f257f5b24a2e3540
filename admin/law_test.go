package admin_test

import (
	"math"
	"math/rand"
	"slices"
	"testing"

	"skylark/admin"
	"skylark/api"
	"skylark/layout"
	"skylark/trio"
)

// isSound fails unless each brick stands where its state says, in one chain at most, and once.
func isSound(t *testing.T, a *admin.Admin, many int) {
	t.Helper()
	found := make([]int, many)
	for i, c := range a.Chains() {
		if len(c.Order) == 0 {
			t.Fatal("an empty Order:", told(a))
		}
		for _, b := range c.Order {
			state, at, _ := a.Brick(b)
			found[b]++
			if at != i || state != api.BOk && (state != api.BDown || len(c.Order) > 1) {
				t.Fatal(b, "in an Order:", told(a))
			}
		}
		for _, b := range c.Repair {
			state, at, _ := a.Brick(b)
			found[b]++
			if at != i || state != api.BRepair {
				t.Fatal(b, "in a Repair:", told(a))
			}
		}
	}
	for b := range many {
		state, at, e := a.Brick(b)
		listed := state == api.BOk || state == api.BRepair
		if e != api.OK || found[b] > 1 || listed && found[b] == 0 || (state == api.BFree) != (at == -1) || state == api.BFree && found[b] > 0 {
			t.Fatal(b, found[b], told(a))
		}
	}
	l, ok := a.Layout()
	if ok != (len(a.Chains()) > 0) || ok && (layout.Check(l) != api.OK || len(l.Weights) != len(a.Chains())) {
		t.Fatal(l, ok)
	}
	if c, ok := a.Change(); ok && (c.Check() != api.OK || c.Done || !layout.Equal(c.Was, l) || len(c.Will.Weights) != len(l.Weights)) {
		t.Fatal(c)
	}
}

// follows fails unless chains went on from what they were as the chapter says, by a command that was not refused.
func follows(t *testing.T, was, is []api.Chain, c api.Cmd) {
	t.Helper()
	changed := 0
	for i, x := range was {
		y := is[i]
		if x.Epoch == y.Epoch {
			if !slices.Equal(x.Order, y.Order) || !slices.Equal(x.Repair, y.Repair) {
				t.Fatalf("%v and %v in one epoch, by %v", x, y, c)
			}
			continue
		}
		changed++
		if y.Epoch != x.Epoch+1 {
			t.Fatalf("%v to %v, by %v", x, y, c)
		}
		for _, b := range y.Order {
			if !slices.Contains(x.Order, b) && (c.Kind != api.CRepaired || c.Brick != b || c.Epoch != x.Epoch || !slices.Contains(x.Repair, b)) {
				t.Fatalf("%d was not repaired: %v to %v, by %v", b, x, y, c)
			}
		}
	}
	ofChain := c.Kind >= api.CJoin && c.Kind <= api.CRepaired
	if changed > 1 || ofChain != (changed == 1) || len(is)-len(was) > 1 || (len(is) > len(was)) != (c.Kind == api.CMake) {
		t.Fatalf("%v to %v, by %v", was, is, c)
	}
}

// Promise 18.4: epochs rise, in each of them a chain has one Order and one Repair, and each brick is in one chain at most; admins that do the same commands are alike.
func TestLaws(t *testing.T) {
	draw := rand.New(rand.NewSource(184))
	for run := range 200 {
		many := 1 + run%api.MaxNodes
		a, twin := newAdmin(t, many), newAdmin(t, many)
		for range 150 {
			was, before := a.Chains(), told(a)
			c := drawnCmd(draw, a, many)
			e := a.Do(c)
			if other := twin.Do(c); other != e || told(a) != told(twin) {
				t.Fatalf("%v: %v and %v: %s and %s", c, e, other, told(a), told(twin))
			}
			if e != api.OK {
				if told(a) != before {
					t.Fatalf("%v is refused: %s, not %s", c, told(a), before)
				}
				continue
			}
			isSound(t, a, many)
			follows(t, was, a.Chains(), c)
		}
	}
}

// Promise 18.4: keys lie on one chain at each time; as the cursor rises each goes once from its chain by the old layout to that by the new one.
func TestKeysMoveOnce(t *testing.T) {
	draw := rand.New(rand.NewSource(1842))
	a := behind(t, 4, made(0), made(1), made(2))
	for range 40 {
		was, _ := a.Layout()
		does(t, a, changed(draw.Intn(30), draw.Intn(30), 1+draw.Intn(30)))
		c, _ := a.Change()
		for _, cursor := range []string{"b", "f", "m", "q", "zz"} {
			does(t, a, moved(cursor))
			for key := byte('a'); key <= 'z'; key++ {
				from := layout.Change{Was: was, Will: c.Will, Done: string(key) < cursor}
				want, e := from.Owner(string(key))
				if e != api.OK {
					t.Fatal(e)
				}
				owns(t, a, string(key), want)
			}
		}
		does(t, a, done())
	}
}

// Promise 18.4: nodes that agree on commands, as bytes, have admins that are alike, though leaders go down.
func TestNodesThatAgree(t *testing.T) {
	draw := rand.New(rand.NewSource(1843))
	x, e := trio.New(3, 2)
	if e != api.OK {
		t.Fatal(e)
	}
	admins := []*admin.Admin{newAdmin(t, 6), newAdmin(t, 6), newAdmin(t, 6)}
	proposed := newAdmin(t, 6)
	cmds := 0
	for round := range 120 {
		x.Do(api.Act{Kind: api.TRound})
		c := drawnCmd(draw, proposed, 6)
		b, e := admin.Encode(c)
		if e != api.OK {
			continue
		}
		for node := range 3 {
			if _, e := x.Do(api.Act{Kind: api.TPropose, N: node, Data: b}); e == api.OK {
				proposed.Do(c)
				cmds++
				break
			}
		}
		if round%25 == 24 {
			x.Do(api.Act{Kind: api.TCrash, N: round / 25})
		}
	}
	for range 40 {
		x.Do(api.Act{Kind: api.TRound})
	}
	for node, a := range admins {
		for _, entry := range x.Took(node) {
			if c, e := admin.Decode(entry.Data); e == api.OK {
				a.Do(c)
			}
		}
		if told(a) != told(admins[0]) || told(a) == told(newAdmin(t, 6)) {
			t.Error(node, told(a), told(admins[0]))
		}
	}
	if cmds < 60 {
		t.Error(cmds)
	}
}

// Promise P1: no call panics, whatever it is given.
func TestNoPanic(t *testing.T) {
	numbers := []int{math.MinInt, -1, 0, 1, 2, 8, 16, 1 << 32, math.MaxInt}
	lists := [][]int{nil, {}, {0}, {1, 2}, {-1}, {math.MaxInt}, {0, 0}, make([]int, 9), make([]int, 100000)}
	cursors := []string{"", "a", "\xff", long(64), long(65), long(api.MaxBytes + 1)}
	for many := -1; many < 20; many++ {
		a, e := admin.New(many)
		if e != api.OK {
			continue
		}
		a.Do(made(0))
		for kind := -1; kind <= 10; kind++ {
			for _, n := range numbers {
				for i, l := range lists {
					a.Do(api.Cmd{Kind: kind, Brick: n, List: l})
					a.Do(api.Cmd{Kind: kind, Chain: n, Brick: i})
					a.Do(api.Cmd{Kind: kind, Brick: i, Epoch: n})
					a.Do(api.Cmd{Kind: kind, Cursor: cursors[i%len(cursors)]})
					a.Do(api.Cmd{Kind: kind, List: l})
				}
				a.Brick(n)
				admin.Encode(api.Cmd{Kind: kind, Chain: n, Brick: n, Epoch: n, List: lists[kind&7], Cursor: cursors[0]})
			}
		}
		for _, key := range cursors {
			a.Owner(key)
			admin.Decode(key)
		}
		isSound(t, a, many)
	}
}
