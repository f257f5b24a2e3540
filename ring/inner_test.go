package ring

import (
	"math"
	"slices"
	"testing"
)

// These tests look from within, for no text is known whose hash stands where they need it.

// Promise 6.1: points of one number stand by their chains, rising, then by i: as they are put down.
func TestSameNumbers(t *testing.T) {
	var p points
	for i, at := range []uint64{5, 3, 5, math.MaxUint64, 3, 0, 5} {
		p.add(at, i/2)
	}
	q := p.sorted()
	if !slices.Equal(q.at, []uint64{0, 3, 3, 5, 5, 5, math.MaxUint64}) || !slices.Equal(q.chain, []int{2, 0, 2, 0, 1, 3, 1}) {
		t.Error(q)
	}
	for hash, want := range map[uint64]int{0: 2, 1: 0, 3: 0, 4: 0, 5: 0, 6: 1, math.MaxUint64: 1} {
		if c := q.owner(hash); c != want {
			t.Errorf("%d: %d, not %d", hash, c, want)
		}
	}
}

// Promise 6.1: beside each point, and at both ends of the ring, a hash has the chain of the first point that is not below it.
func TestBesidePoints(t *testing.T) {
	for _, weights := range [][]int{{1}, {0, 1}, {0, 0, 2}, {1, 0, 1}, {2, 0, 3}, {5, 4, 3, 2, 1, 0, 1, 2}, {128, 0, 128}} {
		p := inOrder(weights)
		hashes := []uint64{0, 1, math.MaxUint64 - 1, math.MaxUint64}
		for _, at := range p.at {
			hashes = append(hashes, at-1, at, at+1)
		}
		for _, hash := range hashes {
			want := p.chain[0]
			if i := slices.IndexFunc(p.at, func(at uint64) bool { return at >= hash }); i >= 0 {
				want = p.chain[i]
			}
			if got := p.owner(hash); got != want {
				t.Errorf("%v %d: owner %d, not %d", weights, hash, got, want)
			}
			if got := firstMet(weights, hash); got != want {
				t.Errorf("%v %d: first met %d, not %d", weights, hash, got, want)
			}
		}
	}
}
