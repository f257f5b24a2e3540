package layout_test

import (
	"math/rand"
	"slices"
	"strings"
	"testing"
	"unsafe"

	"skylark/api"
	"skylark/layout"
	"skylark/ring"
)

// gone goes one step on with a change, as Next says.
func gone(t *testing.T, c layout.Change, keys []string, most int) (layout.Change, []int) {
	t.Helper()
	cursor, moves, isDone, e := c.Next(keys, most)
	if e != api.OK {
		t.Fatal(c, keys, most, e)
	}
	if isDone {
		return done(c), moves
	}
	next, e := c.To(cursor)
	if e != api.OK {
		t.Fatal(c, cursor, e)
	}
	return next, moves
}

// Promise 7.4: as the cursor rises each key moves once, from its chain by Was to that by Will, just when Next says so, and those of which both are the same never do; and the end is reached.
func TestOneOwner(t *testing.T) {
	r := rand.New(rand.NewSource(74))
	for range 300 {
		c, keys := drawnChange(r), drawnKeys(r)
		moved := make([]int, len(keys))
		for steps := 0; !c.Done; steps++ {
			if steps > len(keys) {
				t.Fatal("no end", c, keys)
			}
			next, moves := gone(t, c, keys, 1+r.Intn(5))
			for i, key := range keys {
				before, after := owner(t, c, key), owner(t, next, key)
				if (before != after) != slices.Contains(moves, i) {
					t.Fatalf("%v to %v: %q: %d, %d: %v", c, next, key, before, after, moves)
				}
				if before != after {
					moved[i]++
				}
			}
			c = next
		}
		for i, key := range keys {
			was, _ := ring.Of(c.Was.Weights, key)
			will, _ := ring.Of(c.Will.Weights, key)
			want := 0
			if was != will {
				want = 1
			}
			if moved[i] != want || owner(t, c, key) != will {
				t.Fatalf("%v %q: moved %d times", c, key, moved[i])
			}
		}
		if l, e := c.End(); e != api.OK || !layout.Equal(l, c.Will) {
			t.Fatal(l, e)
		}
	}
}

// Promise 7.4: whatever cursors rise, each key lies on its chain by Was, and from some cursor on by Will for good.
func TestAnyCursors(t *testing.T) {
	r := rand.New(rand.NewSource(75))
	for range 300 {
		c, key := drawnChange(r), drawnText(r)
		was, _ := ring.Of(c.Was.Weights, key)
		will, _ := ring.Of(c.Will.Weights, key)
		cursors := append(drawnKeys(r), "\xff\xff\xff\xff")
		for _, cursor := range cursors {
			next, e := c.To(cursor)
			if e != api.OK {
				t.Fatal(c, cursor, e)
			}
			want := was
			if key < cursor {
				want = will
			}
			if got := owner(t, next, key); got != want {
				t.Fatalf("%v %q: %d, not %d", next, key, got, want)
			}
			c = next
		}
	}
}

// The document's example, and that of the whole.
func TestExamples(t *testing.T) {
	for _, was := range [][]int{{1}, {1, 0}} {
		c := layout.Change{Was: lay(1, was...), Will: lay(2, 0, 1), Cursor: "m"}
		if a, z := owner(t, c, "a"), owner(t, c, "z"); a != 1 || z != 0 {
			t.Error(a, z)
		}
		if a, z := owner(t, done(c), "a"), owner(t, done(c), "z"); a != 1 || z != 1 {
			t.Error(a, z)
		}
	}
}

// roomy is a list whose spare room can be watched.
func roomy(weights ...int) []int {
	return append(make([]int, 0, 16), weights...)
}

// Rule R4: what is handed in is not changed, spare room too, and answers share no memory with it or with each other.
func TestMemory(t *testing.T) {
	was, will := roomy(20, 20), roomy(20, 20, 20)
	c := layout.Change{Was: api.Layout{Version: 1, Weights: was}, Will: api.Layout{Version: 2, Weights: will}}
	keys := append(make([]string, 0, 40), letters()...)
	cursor := strings.Repeat("m", 3)
	x, e := c.To(cursor)
	if e != api.OK {
		t.Fatal(e)
	}
	if unsafe.StringData(x.Cursor) == unsafe.StringData(cursor) {
		t.Error("the cursor is shared")
	}
	next, moves, _, _ := c.Next(keys, 6)
	if unsafe.StringData(next) == unsafe.StringData(keys[6]) {
		t.Error("the key is shared")
	}
	again, _ := c.To(cursor)
	l, _ := done(c).End()
	for _, w := range [][]int{x.Was.Weights, x.Will.Weights, l.Weights} {
		w = w[:cap(w)]
		for i := range w {
			w[i] = 7
		}
	}
	moves = append(moves[:cap(moves)], 7)
	moves[0] = 7
	if !slices.Equal(was[:3], []int{20, 20, 0}) || !slices.Equal(will[:4], []int{20, 20, 20, 0}) {
		t.Error(was[:3], will[:4])
	}
	if !layout.Equal(again.Was, lay(1, 20, 20)) || !layout.Equal(again.Will, lay(2, 20, 20, 20)) {
		t.Error(again)
	}
	if !slices.Equal(keys, letters()) || keys[:40][26] != "" {
		t.Error(keys)
	}
	if _, moves, _, _ := c.Next(keys, 6); !slices.Equal(moves, []int{1, 5}) {
		t.Error(moves)
	}
}
