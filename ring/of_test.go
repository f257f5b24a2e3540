package ring_test

import (
	"math/rand"
	"slices"
	"strconv"
	"testing"

	"skylark/api"
	"skylark/ring"
)

// The chapter's example: with one chain that has weight all keys lie on it.
func TestExample(t *testing.T) {
	for _, key := range append(numbered("key", 200), odd()...) {
		if c := of(t, []int{1}, key); c != 0 {
			t.Errorf("%q: %d", key, c)
		}
		if c := of(t, []int{0, 3}, key); c != 1 {
			t.Errorf("%q: %d", key, c)
		}
	}
}

// Promise 6.1: the chains of some keys, worked out elsewhere.
func TestOf(t *testing.T) {
	keys := []string{"", "a", "b", "k", "m", "z", "key0", "key1", "key2", "0.0", "1.0", "2.2"}
	for _, x := range []struct{ weights, want []int }{
		{[]int{2, 0, 3}, []int{0, 0, 2, 2, 0, 2, 2, 2, 2, 0, 0, 2}},
		{[]int{1, 1}, []int{0, 0, 0, 0, 1, 0, 0, 0, 0, 0, 1, 0}},
		{[]int{20, 20}, []int{1, 1, 0, 0, 0, 1, 0, 1, 1, 0, 1, 0}},
		{[]int{20, 20, 20}, []int{1, 1, 2, 2, 0, 1, 0, 1, 1, 0, 1, 2}},
		{[]int{128, 128, 128, 128, 128, 128, 128, 128}, []int{1, 1, 5, 0, 0, 5, 4, 3, 3, 0, 1, 2}},
	} {
		for i, key := range keys {
			if c := of(t, x.weights, key); c != x.want[i] {
				t.Errorf("%v %q: %d, not %d", x.weights, key, c, x.want[i])
			}
		}
	}
}

// Promise 6.1: a point is not below a hash that is the same: the text of a point lies on the point's chain.
func TestOfPoints(t *testing.T) {
	for _, weights := range good() {
		for c, weight := range weights {
			for i := range weight {
				if got := of(t, weights, strconv.Itoa(c)+"."+strconv.Itoa(i)); got != c {
					t.Errorf("%v %d.%d: %d", weights, c, i, got)
				}
			}
		}
	}
}

// Promise 6.1: a key whose hash is above all points lies on the chain of the first one of all.
func TestOfRoundTheTop(t *testing.T) {
	const first, last = 1359422770756843653, 12088587431885770957
	above, below := 0, 0
	for _, key := range numbered("key", 1000) {
		hash := ring.Hash(key)
		if c := of(t, []int{2, 0, 3}, key); (hash > last || hash <= first) && c != 0 {
			t.Errorf("%q: %d", key, c)
		}
		// By these weights the last point is chain 1's, the first one chain 0's.
		switch c := of(t, []int{1, 1}, key); {
		case hash > 13215448200680200777:
			above++
			if c != 0 {
				t.Errorf("%q: %d", key, c)
			}
		case hash > last:
			below++
			if c != 1 {
				t.Errorf("%q: %d", key, c)
			}
		}
	}
	if above < 10 || below < 10 {
		t.Error(above, below)
	}
}

// Promise 6.1: any text lies on the chain that the chapter's words say.
func TestOfModel(t *testing.T) {
	r := rand.New(rand.NewSource(8))
	all := good()
	for range 40 {
		all = append(all, drawn(r))
	}
	keys := append(numbered("k", 100), odd()...)
	for _, weights := range all {
		points := modelPoints(weights)
		for _, key := range keys {
			if got, want := of(t, weights, key), modelOf(points, key); got != want {
				t.Errorf("%v %q: %d, not %d", weights, key, got, want)
			}
		}
	}
}

// Promise 6.1: weights that may not be are refused, whatever the key is.
func TestOfRefuse(t *testing.T) {
	for _, weights := range bad() {
		for _, key := range append(odd(), "k") {
			if c, e := ring.Of(weights, key); c != 0 || e != api.ErrRange {
				t.Errorf("%v %q: %d %v", weights, key, c, e)
			}
		}
	}
}

// Rule R4: what lies behind the weights' end is neither read nor written.
func TestOfMemory(t *testing.T) {
	weights := []int{0, 5, 128, 129, -1}
	for _, key := range numbered("k", 50) {
		if c := of(t, weights[:2], key); c != 1 {
			t.Errorf("%q: %d", key, c)
		}
	}
	if !slices.Equal(weights, []int{0, 5, 128, 129, -1}) {
		t.Error(weights)
	}
}
