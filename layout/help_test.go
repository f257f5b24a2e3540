package layout_test

import (
	"math/rand"
	"slices"
	"strings"
	"testing"

	"skylark/api"
	"skylark/layout"
)

// Chains of the keys a to z, worked out elsewhere.
const (
	by20and20   = "10100001110000010110011011"
	by20thrice  = "12100221122000010110021221"
	by3and0and2 = "02000222002202020020202202"
	by0and5     = "12111222111212121121111211" // and 2 and 1
)

// lay is a layout.
func lay(version int, weights ...int) api.Layout {
	return api.Layout{Version: version, Weights: weights}
}

// widened is a change in which some keys move to a chain that comes up, and most do not.
func widened() layout.Change {
	return layout.Change{Was: lay(1, 20, 20), Will: lay(2, 20, 20, 20)}
}

// at is the change that stands at a cursor.
func at(c layout.Change, cursor string) layout.Change {
	c.Cursor, c.Done = cursor, false
	return c
}

// done is the change that stands at its end.
func done(c layout.Change) layout.Change {
	c.Cursor, c.Done = "", true
	return c
}

// letters are the keys a to z.
func letters() []string {
	var keys []string
	for c := 'a'; c <= 'z'; c++ {
		keys = append(keys, string(c))
	}
	return keys
}

// long is a text of so many bytes.
func long(many int) string {
	return strings.Repeat("k", many)
}

// badWeights are weights that may not be.
func badWeights() [][]int {
	return [][]int{nil, {}, {0}, {0, 0, 0}, {-1}, {-1, 1}, {129}, {1, 129}, {1, 1, 1, 1, 1, 1, 1, 1, 1}, {1, 0, 0, 0, 0, 0, 0, 0, 0}}
}

// badLayouts are layouts that may not be.
func badLayouts() []api.Layout {
	bad := []api.Layout{{}, lay(0, 1), lay(-1, 1), lay(api.MaxEpoch+1, 1), lay(1<<40+1, 1), lay(1<<62, 1), lay(-1<<63, 1), lay(1<<63-1, 1)}
	for _, w := range badWeights() {
		bad = append(bad, lay(1, w...), lay(2, w...))
	}
	return bad
}

// badChanges are changes that may not be.
func badChanges() []layout.Change {
	bad := []layout.Change{
		{},
		{Was: lay(1, 1)},
		{Will: lay(1, 1)},
		{Will: lay(2, 1)},
		{Was: lay(0, 1), Will: lay(1, 1)},
		{Was: lay(1, 1), Will: lay(1, 1)},
		{Was: lay(1, 1), Will: lay(3, 1)},
		{Was: lay(2, 1), Will: lay(1, 1)},
		{Was: lay(api.MaxEpoch, 1), Will: lay(api.MaxEpoch+1, 1)},
		{Was: lay(api.MaxEpoch, 1), Will: lay(api.MaxEpoch, 1)},
		{Was: lay(-1<<63, 1), Will: lay(-1<<63+1, 1)},
		{Was: lay(1<<63-1, 1), Will: lay(-1<<63, 1)},
		{Was: lay(1, 1, 1), Will: lay(2, 1)},
		{Was: lay(1, 1, 0), Will: lay(2, 1)},
		{Was: lay(1, 1, 1, 1, 1, 1, 1, 1, 1), Will: lay(2, 1, 1, 1, 1, 1, 1, 1)},
		at(widened(), long(api.MaxKey+1)),
		at(widened(), long(5000)),
	}
	for _, cursor := range []string{"a", "\x00", "\xff", long(api.MaxKey), long(api.MaxKey + 1)} {
		c := at(widened(), cursor)
		c.Done = true
		bad = append(bad, c)
	}
	for _, w := range badWeights() {
		bad = append(bad, layout.Change{Was: lay(1, w...), Will: lay(2, 1, 1, 1, 1, 1, 1, 1, 1)}, layout.Change{Was: lay(1, 1), Will: lay(2, w...)})
	}
	for _, c := range bad[:15] {
		bad = append(bad, at(c, "m"), done(c))
	}
	return bad
}

// drawnWeights are weights that may be, of so many chains.
func drawnWeights(r *rand.Rand, chains int) []int {
	for {
		weights := make([]int, chains)
		for i := range weights {
			weights[i] = []int{0, 1, r.Intn(5), r.Intn(129), 128}[r.Intn(5)]
		}
		if slices.Max(weights) > 0 {
			return weights
		}
	}
}

// drawnChange is a change that stands at its beginning.
func drawnChange(r *rand.Rand) layout.Change {
	chains, version := 1+r.Intn(api.MaxChains), 1+r.Intn(api.MaxEpoch-1)
	more := chains + r.Intn(api.MaxChains-chains+1)
	return layout.Change{Was: lay(version, drawnWeights(r, chains)...), Will: lay(version+1, drawnWeights(r, more)...)}
}

// drawnText is a text of few letters, so that texts often are the same, or begin each other.
func drawnText(r *rand.Rand) string {
	b := make([]byte, r.Intn(4))
	for i := range b {
		b[i] = "ab\x00\xff"[r.Intn(4)]
	}
	return string(b)
}

// drawnKeys are keys that rise.
func drawnKeys(r *rand.Rand) []string {
	var keys []string
	for range r.Intn(30) {
		if key := drawnText(r); key != "" {
			keys = append(keys, key)
		}
	}
	slices.Sort(keys)
	return slices.Compact(keys)
}

// owner answers the chain of a key by a change that may be.
func owner(t *testing.T, c layout.Change, key string) int {
	t.Helper()
	o, e := c.Owner(key)
	if e != api.OK {
		t.Fatalf("%v %q: %v", c, key, e)
	}
	return o
}
