package layout_test

import (
	"math/rand"
	"slices"
	"testing"

	"skylark/api"
	"skylark/layout"
	"skylark/ring"
)

// Promise 7.3: of the next keys those that move, and the key behind them, worked out elsewhere.
func TestNext(t *testing.T) {
	const most = int(^uint(0) >> 1)
	for _, x := range []struct {
		from   string
		most   int
		cursor string
		moves  []int
		done   bool
	}{
		{"", 1, "b", nil, false},
		{"", 2, "c", []int{1}, false},
		{"", 6, "g", []int{1, 5}, false},
		{"", 25, "z", []int{1, 5, 6, 9, 10, 21, 23, 24}, false},
		{"", 26, "", []int{1, 5, 6, 9, 10, 21, 23, 24}, true},
		{"", 27, "", []int{1, 5, 6, 9, 10, 21, 23, 24}, true},
		{"", most, "", []int{1, 5, 6, 9, 10, 21, 23, 24}, true},
		{"a", 1, "b", nil, false},
		{"b", 1, "c", []int{1}, false},
		{"aa", 1, "c", []int{1}, false},
		{"b\x00", 1, "d", nil, false},
		{"l", 9, "u", nil, false},
		{"l", 11, "w", []int{21}, false},
		{"v", most, "", []int{21, 23, 24}, true},
		{"y", 1, "z", []int{24}, false},
		{"y", 2, "", []int{24}, true},
		{"z", 1, "", nil, true},
		{"z", most, "", nil, true},
		{"zz", 1, "", nil, true},
		{"\xff", 7, "", nil, true},
	} {
		cursor, moves, done, e := at(widened(), x.from).Next(letters(), x.most)
		if cursor != x.cursor || !slices.Equal(moves, x.moves) || done != x.done || e != api.OK {
			t.Errorf("%q %d: %q %v %v %v", x.from, x.most, cursor, moves, done, e)
		}
	}
}

// Promise 7.3: at the end no key is looked at; without keys the end is told.
func TestNextNone(t *testing.T) {
	for _, keys := range [][]string{nil, {}, {"a"}, letters()} {
		for _, most := range []int{1, 5, 100} {
			cursor, moves, isDone, e := done(widened()).Next(keys, most)
			if cursor != "" || len(moves) != 0 || !isDone || e != api.OK {
				t.Error(keys, most, cursor, moves, isDone, e)
			}
		}
	}
	for _, keys := range [][]string{nil, {}} {
		for _, c := range []layout.Change{widened(), at(widened(), "m")} {
			if cursor, moves, isDone, e := c.Next(keys, 1); cursor != "" || len(moves) != 0 || !isDone || e != api.OK {
				t.Error(c, cursor, moves, isDone, e)
			}
		}
	}
}

// Promise 7.3: numbers below 1, lists that do not rise, and what is no key are refused, wherever they stand and wherever the change stands.
func TestNextRefuse(t *testing.T) {
	changes := []layout.Change{widened(), at(widened(), "m"), at(widened(), "zz"), done(widened())}
	refused := func(keys []string, most int) {
		t.Helper()
		for _, c := range changes {
			if cursor, moves, isDone, e := c.Next(keys, most); cursor != "" || len(moves) != 0 || isDone || e != api.ErrRange {
				t.Errorf("%q %d: %q %v %v %v", keys, most, cursor, moves, isDone, e)
			}
		}
	}
	for _, most := range []int{0, -1, -1 << 63} {
		refused(nil, most)
		refused(letters(), most)
		refused([]string{"b", "a"}, most)
	}
	for _, keys := range [][]string{
		{""}, {"", "a"}, {long(api.MaxKey + 1)}, {"a", long(api.MaxKey + 1)}, {"a", long(5000)}, {"a", "a"}, {"b", "a"}, {"a", "B"}, {"a", ""},
		{"a", "b", "b"}, {"a", "c", "b"}, {"aa", "a"}, {"\x80", "\x7f"}, {long(api.MaxKey), long(api.MaxKey)}, {"a", "b", "c", "d", "e", "d"},
	} {
		for _, most := range []int{1, 2, 100} {
			refused(keys, most)
		}
	}
	fine := [][]string{{"\x00"}, {long(api.MaxKey)}, {"a", "a\x00"}, {"\x7f", "\x80"}, {long(api.MaxKey - 1), long(api.MaxKey)}}
	for _, keys := range fine {
		for _, c := range changes {
			if _, _, _, e := c.Next(keys, 1); e != api.OK {
				t.Errorf("%q: %v", keys, e)
			}
		}
	}
}

// Promise 7.3: a list that is long is taken too, for the chapter refuses none.
func TestNextLong(t *testing.T) {
	var keys []string
	for i := range 3 * api.MaxItems {
		keys = append(keys, string([]byte{'k', byte(i >> 8), byte(i)}))
	}
	c := layout.Change{Was: lay(1, 1), Will: lay(2, 0, 1)}
	cursor, moves, done, e := c.Next(keys, len(keys)-1)
	if cursor != keys[len(keys)-1] || len(moves) != len(keys)-1 || done || e != api.OK {
		t.Error(cursor, len(moves), done, e)
	}
}

// modelNext is what the chapter says, key by key.
func modelNext(c layout.Change, keys []string, most int) (cursor string, moves []int, done bool) {
	seen := 0
	for i, key := range keys {
		if c.Done || key < c.Cursor {
			continue
		}
		if seen == most {
			return key, moves, false
		}
		seen++
		was, _ := ring.Of(c.Was.Weights, key)
		will, _ := ring.Of(c.Will.Weights, key)
		if was != will {
			moves = append(moves, i)
		}
	}
	return "", moves, true
}

// Promise 7.3: with drawn changes, cursors and keys.
func TestNextModel(t *testing.T) {
	r := rand.New(rand.NewSource(7))
	for range 3000 {
		c, keys, most := at(drawnChange(r), drawnText(r)), drawnKeys(r), 1+r.Intn(12)
		if r.Intn(10) == 0 {
			c = done(c)
		}
		cursor, moves, isDone, e := c.Next(keys, most)
		wantCursor, wantMoves, wantDone := modelNext(c, keys, most)
		if cursor != wantCursor || !slices.Equal(moves, wantMoves) || isDone != wantDone || e != api.OK {
			t.Fatalf("%v %q %d: %q %v %v %v, not %q %v %v", c, keys, most, cursor, moves, isDone, e, wantCursor, wantMoves, wantDone)
		}
	}
}
