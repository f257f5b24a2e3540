package ring_test

import (
	"math/rand"
	"slices"
	"testing"

	"skylark/api"
	"skylark/ring"
)

// Promise 6.1: from 1 to api.MaxChains weights from 0 to 128 may be, if one of them is not 0.
func TestCheck(t *testing.T) {
	for _, weights := range good() {
		if e := ring.Check(weights); e != api.OK {
			t.Errorf("%v: %v", weights, e)
		}
	}
	for _, weights := range bad() {
		if e := ring.Check(weights); e != api.ErrRange {
			t.Errorf("%v: %v", weights, e)
		}
	}
	for w := -300; w <= 300; w++ {
		alone, beside := api.OK, api.OK
		if w < 1 || w > 128 {
			alone = api.ErrRange
		}
		if w < 0 || w > 128 {
			beside = api.ErrRange
		}
		if e := ring.Check([]int{w}); e != alone {
			t.Errorf("%d alone: %v", w, e)
		}
		if e := ring.Check([]int{1, w}); e != beside {
			t.Errorf("%d behind 1: %v", w, e)
		}
		if e := ring.Check([]int{w, 1}); e != beside {
			t.Errorf("%d ahead of 1: %v", w, e)
		}
	}
}

// Promise 6.1: the points of some weights, worked out elsewhere.
func TestPoints(t *testing.T) {
	for _, x := range []struct {
		weights []int
		at      []uint64
		chain   []int
	}{
		{[]int{1}, []uint64{12088587431885770957}, []int{0}},
		{[]int{0, 1, 0}, []uint64{13215448200680200777}, []int{1}},
		{
			[]int{2, 0, 3},
			[]uint64{1359422770756843653, 5049114208292328547, 6625024584023747712, 10287862103545575434, 12088587431885770957},
			[]int{0, 2, 2, 2, 0},
		},
		{
			[]int{1, 1, 1, 1, 1, 1, 1, 1},
			[]uint64{180588949986823656, 2454742695556927560, 5709275639004064114, 10287862103545575434, 11288198747709212701, 12088587431885770957, 13215448200680200777, 17730470012346033265},
			[]int{3, 7, 5, 2, 6, 0, 1, 4},
		},
	} {
		at, chain, e := ring.Points(x.weights)
		if e != api.OK || !slices.Equal(at, x.at) || !slices.Equal(chain, x.chain) {
			t.Errorf("%v: %v %v %v", x.weights, at, chain, e)
		}
	}
}

// Promise 6.1: the points of all weights are those of the chapter's words, in their order.
func TestPointsModel(t *testing.T) {
	all := good()
	r := rand.New(rand.NewSource(7))
	for range 60 {
		all = append(all, drawn(r))
	}
	for _, weights := range all {
		var at []uint64
		var chain []int
		for _, p := range modelPoints(weights) {
			at = append(at, p.at)
			chain = append(chain, p.chain)
		}
		gotAt, gotChain, e := ring.Points(weights)
		if e != api.OK || !slices.Equal(gotAt, at) || !slices.Equal(gotChain, chain) {
			t.Errorf("%v: %d points, %d chains, %v", weights, len(gotAt), len(gotChain), e)
		}
	}
}

// Promise 6.1: the greatest weights have api.MaxPoints points, no two of one number.
func TestMostPoints(t *testing.T) {
	at, chain, e := ring.Points([]int{128, 128, 128, 128, 128, 128, 128, 128})
	if e != api.OK || len(at) != api.MaxPoints || len(chain) != api.MaxPoints {
		t.Fatal(len(at), len(chain), e)
	}
	for i := 1; i < len(at); i++ {
		if at[i] <= at[i-1] {
			t.Error(i, at[i-1], at[i])
		}
	}
}

// Promise 6.1: weights that may not be have no points.
func TestPointsRefuse(t *testing.T) {
	for _, weights := range bad() {
		if at, chain, e := ring.Points(weights); len(at) != 0 || len(chain) != 0 || e != api.ErrRange {
			t.Errorf("%v: %v %v %v", weights, at, chain, e)
		}
	}
}

// Rule R4: an answer is new memory, spare room too, and what is handed in is neither changed nor read behind its end.
func TestPointsMemory(t *testing.T) {
	weights := []int{3, 2, -1, 500}
	at, chain, e := ring.Points(weights[:2])
	if e != api.OK || !slices.Equal(weights, []int{3, 2, -1, 500}) {
		t.Fatal(weights, e)
	}
	wantAt, wantChain := slices.Clone(at), slices.Clone(chain)
	clear(at[:cap(at)])
	clear(chain[:cap(chain)])
	weights[0] = 0
	at, chain, e = ring.Points([]int{3, 2})
	if e != api.OK || !slices.Equal(at, wantAt) || !slices.Equal(chain, wantChain) {
		t.Error(at, chain, e)
	}
}
