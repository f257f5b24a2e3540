package admin_test

import (
	"math"
	"testing"

	"skylark/api"
	"skylark/layout"
	"skylark/ring"
)

// Promise 18.1: with each chain the layout's version is one more, and the new chain weighs 16; bricks that come and go leave it.
func TestLayoutOfChains(t *testing.T) {
	a := behind(t, 8, made(0, 1))
	lies(t, a, 1, 16)
	does(t, a, down(0), up(0), join(0, 2), leave(2))
	lies(t, a, 1, 16)
	does(t, a, made(4))
	lies(t, a, 2, 16, 16)
	does(t, a, changed(7, 0), done(), made(5))
	lies(t, a, 4, 7, 0, 16)
	noChange(t, a)
}

// Promise 18.1: CChange begins a change at the empty cursor; the layout is the old one till it is done.
func TestChange(t *testing.T) {
	a := behind(t, 8, made(0), made(1))
	does(t, a, changed(0, 128))
	goesOn(t, a, lay(2, 16, 16), lay(3, 0, 128), "")
	lies(t, a, 2, 16, 16)
	does(t, a, moved(""), moved("b"), moved("b"), moved("ba"))
	goesOn(t, a, lay(2, 16, 16), lay(3, 0, 128), "ba")
	lies(t, a, 2, 16, 16)
	does(t, a, down(0), up(0), join(1, 3), repaired(3, 2), leave(1))
	goesOn(t, a, lay(2, 16, 16), lay(3, 0, 128), "ba")
	does(t, a, done())
	noChange(t, a)
	lies(t, a, 3, 0, 128)
	does(t, a, changed(0, 128))
	goesOn(t, a, lay(3, 0, 128), lay(4, 0, 128), "")
	does(t, a, done())
	lies(t, a, 4, 0, 128)
}

// Promise 18.1: CChange refuses weights that may not be, or not as many as the chains.
func TestChangeRefuses(t *testing.T) {
	a := newAdmin(t, 16)
	refuses(t, a, api.ErrLayout, changed(), changed(1), changed(16), changed(-1), changed(1, 1))
	does(t, a, made(0), made(1), made(2))
	refuses(t, a, api.ErrLayout,
		changed(), changed(1), changed(1, 1), changed(1, 1, 1, 1), changed(0, 0, 0), changed(1, 129, 1), changed(1, 1, -1), changed(math.MinInt, 1, 1), changed(1, 1, math.MaxInt),
		changed(make([]int, 5000)...), changed(1, 1, 1, 1, 1, 1, 1, 1, 1), changed(1, 1, 1<<32+1))
	does(t, a, changed(0, 1, 128))
	refuses(t, a, api.ErrPlan, changed(0, 1, 128), changed(1, 1, 1), changed(), changed(1), changed(-1, 1, 1))
	does(t, a, done(), changed(0, 0, 1))
	full := newAdmin(t, 8)
	for b := range api.MaxChains {
		does(t, full, made(b))
	}
	refuses(t, full, api.ErrLayout, changed(1, 1, 1, 1, 1, 1, 1, 1, 1))
	does(t, full, changed(0, 0, 0, 0, 0, 0, 0, 1))
}

// Promise 18.1: a chain is not made while a change goes on; bricks that may not come are told first.
func TestMakeWhileChanging(t *testing.T) {
	a := behind(t, 4, made(0), changed(1))
	refuses(t, a, api.ErrLong, made(1), made(1, 2, 3))
	refuses(t, a, api.ErrPlan, made(0), made(), made(1, 1))
	refuses(t, a, api.ErrRange, made(4))
	does(t, a, moved("k"))
	refuses(t, a, api.ErrLong, made(1))
	does(t, a, done(), made(1))
	lies(t, a, 3, 1, 16)
}

// Promise 18.1: CMoved takes cursors that are not below the one that is there, up to api.MaxKey bytes, while a change goes on.
func TestMoved(t *testing.T) {
	a := newAdmin(t, 4)
	cursors := []api.Cmd{moved(""), moved("m"), moved(long(api.MaxKey)), moved(long(api.MaxKey + 1))}
	refuses(t, a, api.ErrPlan, cursors...)
	does(t, a, made(0), made(1))
	refuses(t, a, api.ErrPlan, cursors...)
	does(t, a, changed(1, 2))
	refuses(t, a, api.ErrRange, moved(long(api.MaxKey+1)), moved(long(5000)))
	does(t, a, moved("m"))
	refuses(t, a, api.ErrRange, moved(""), moved("lz"), moved("a"), moved("M"), moved("z"+long(api.MaxKey)))
	does(t, a, moved("m"), moved("m\x00"), moved("\xff"+long(api.MaxKey-1)))
	goesOn(t, a, lay(2, 16, 16), lay(3, 1, 2), "\xff"+long(api.MaxKey-1))
	refuses(t, a, api.ErrRange, moved("\xff"))
	does(t, a, done())
	refuses(t, a, api.ErrPlan, cursors...)
	does(t, a, changed(2, 1), moved("a"))
	goesOn(t, a, lay(3, 1, 2), lay(4, 2, 1), "a")
}

// Promise 18.1: CDone makes the new layout that which is, wherever the cursor stands.
func TestDone(t *testing.T) {
	a := newAdmin(t, 4)
	refuses(t, a, api.ErrPlan, done())
	does(t, a, made(0))
	refuses(t, a, api.ErrPlan, done())
	does(t, a, changed(5), done())
	lies(t, a, 2, 5)
	noChange(t, a)
	refuses(t, a, api.ErrPlan, done())
}

// Promise 18.2: the chain of a key by the layout, and by the change, if one goes on.
func TestOwner(t *testing.T) {
	a := behind(t, 8, made(0), made(1), changed(0, 1), done(), made(2), changed(1, 0, 0))
	was, will := lay(4, 0, 1, 16), lay(5, 1, 0, 0)
	keys := []string{"", "a", "b", "l", "m", "m\x00", "z", "\xff", long(api.MaxKey), long(5000)}
	for _, cursor := range []string{"", "b", "m", "m\x00", "zz"} {
		does(t, a, moved(cursor))
		for _, key := range keys {
			want, _ := ring.Of(was.Weights, key)
			if key < cursor {
				want = 0
			}
			owns(t, a, key, want)
			if byChange, _ := (layout.Change{Was: was, Will: will, Cursor: cursor}).Owner(key); byChange != want {
				t.Error(cursor, key, byChange)
			}
		}
	}
	does(t, a, done())
	for _, key := range keys {
		owns(t, a, key, 0)
	}
	does(t, a, changed(0, 0, 3), done())
	for _, key := range keys {
		owns(t, a, key, 2)
	}
}

// Promise 18.2: as many keys lie as the weights say, so that no chain is forgotten.
func TestOwnerOfMany(t *testing.T) {
	a := behind(t, 8, made(0), made(1), made(2), changed(16, 0, 48), done())
	for i := range 500 {
		key := string([]byte{'k', byte(i), byte(i >> 8)})
		want, _ := ring.Of(bricks(16, 0, 48), key)
		owns(t, a, key, want)
	}
}
