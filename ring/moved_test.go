package ring_test

import (
	"math/rand"
	"slices"
	"testing"

	"skylark/api"
	"skylark/ring"
)

// Promise 6.2: the keys that move between some weights, worked out elsewhere.
func TestMoved(t *testing.T) {
	keys := numbered("key", 20)
	var all []int
	for i := range keys {
		all = append(all, i)
	}
	for _, x := range []struct{ was, will, want []int }{
		{[]int{20, 20}, []int{20, 20, 20}, []int{5, 6, 8, 10, 11, 12, 18}},
		{[]int{20, 20, 20}, []int{20, 20}, []int{5, 6, 8, 10, 11, 12, 18}},
		{[]int{2, 0, 3}, []int{2, 1, 3}, []int{17}},
		{[]int{2, 0, 3}, []int{2, 0, 2}, nil},
		{[]int{1}, []int{0, 1}, all},
		{[]int{1}, []int{128}, nil},
		{[]int{1}, []int{7, 0, 0}, nil},
		{[]int{20, 20}, []int{20, 20}, nil},
	} {
		if got := moved(t, x.was, x.will, keys); !slices.Equal(got, x.want) {
			t.Errorf("%v %v: %v, not %v", x.was, x.will, got, x.want)
		}
	}
}

// Promise 6.2: numbers are those in the list, rising, of keys in any order, also of one that is there more than once; any texts are taken.
func TestMovedNumbers(t *testing.T) {
	was, will := []int{20, 20}, []int{20, 20, 20}
	keys := []string{"key12", "key0", "key5", "key12", "key1", "key5", "key5"}
	if got := moved(t, was, will, keys); !slices.Equal(got, []int{0, 2, 3, 5, 6}) {
		t.Error(got)
	}
	if got := moved(t, []int{1}, []int{0, 1}, odd()); len(got) != len(odd()) || !slices.IsSorted(got) {
		t.Error(got)
	}
	for _, none := range [][]string{nil, {}} {
		if got := moved(t, was, will, none); len(got) != 0 {
			t.Error(got)
		}
	}
	// The chapter refuses no list that is long.
	if got := moved(t, []int{1}, []int{0, 1}, numbered("k", api.MaxItems+10)); len(got) != api.MaxItems+10 {
		t.Error(len(got))
	}
}

// Promise 6.2: those keys move whose chains by both are unlike.
func TestMovedModel(t *testing.T) {
	r := rand.New(rand.NewSource(9))
	keys := append(numbered("k", 100), odd()...)
	for range 60 {
		was, will := drawn(r), drawn(r)
		before, after := modelPoints(was), modelPoints(will)
		var want []int
		for i, key := range keys {
			if modelOf(before, key) != modelOf(after, key) {
				want = append(want, i)
			}
		}
		if got := moved(t, was, will, keys); !slices.Equal(got, want) {
			t.Errorf("%v %v: %v, not %v", was, will, got, want)
		}
	}
}

// Promise 6.2: what Check refuses of was or of will is refused, also without a key.
func TestMovedRefuse(t *testing.T) {
	fine := []int{1, 2}
	for _, weights := range bad() {
		for _, keys := range [][]string{nil, {"a", "b"}} {
			for _, x := range [][2][]int{{weights, fine}, {fine, weights}, {weights, weights}} {
				if l, e := ring.Moved(x[0], x[1], keys); len(l) != 0 || e != api.ErrRange {
					t.Errorf("%v %v: %v %v", x[0], x[1], l, e)
				}
			}
		}
	}
}

// Rule R4: what is handed in is not changed, nor what lies behind its end; an answer is new memory, spare room too.
func TestMovedMemory(t *testing.T) {
	was, will, keys := []int{1, 9, 9}, []int{0, 1, 9}, []string{"a", "b", "c"}
	first := moved(t, was[:1], will[:2], keys[:2])
	if !slices.Equal(first, []int{0, 1}) {
		t.Fatal(first)
	}
	first = first[:cap(first)]
	for i := range first {
		first[i] = 77
	}
	if got := moved(t, was[:1], will[:2], keys[:2]); !slices.Equal(got, []int{0, 1}) {
		t.Error(got)
	}
	if !slices.Equal(was, []int{1, 9, 9}) || !slices.Equal(will, []int{0, 1, 9}) || !slices.Equal(keys, []string{"a", "b", "c"}) {
		t.Error(was, will, keys)
	}
}

// Promise 6.3: a chain without weight has no key.
func TestNoWeight(t *testing.T) {
	r := rand.New(rand.NewSource(10))
	for range 40 {
		weights := drawn(r)
		for _, key := range numbered("k", 100) {
			if c := of(t, weights, key); c < 0 || c >= len(weights) || weights[c] == 0 {
				t.Errorf("%v %q: %d", weights, key, c)
			}
		}
	}
}

// Promise 6.3: when one chain's weight is greater, keys move to it alone; when it is lesser, just keys of that chain move.
func TestOneWeight(t *testing.T) {
	r := rand.New(rand.NewSource(11))
	keys := numbered("k", 300)
	seen := 0
	for range 60 {
		less := drawn(r)
		more := slices.Clone(less)
		// A chain that there is not yet is one of weight 0.
		c := r.Intn(min(len(less)+1, api.MaxChains))
		if c == len(less) {
			more = append(more, 0)
		}
		more[c] += r.Intn(129 - more[c])
		grown := moved(t, less, more, keys)
		for _, i := range grown {
			if of(t, less, keys[i]) == c || of(t, more, keys[i]) != c {
				t.Errorf("%v %v %q moves", less, more, keys[i])
			}
		}
		if shrunk := moved(t, more, less, keys); !slices.Equal(shrunk, grown) {
			t.Errorf("%v %v: %v there, %v back", less, more, grown, shrunk)
		}
		seen += len(grown)
	}
	if seen < 300 {
		t.Error("too few keys move for this test to tell much:", seen)
	}
}
