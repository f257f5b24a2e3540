package op_test

import (
	"math"
	"slices"
	"testing"

	"skylark/api"
	"skylark/op"
)

// Promise 8.1: operations that may be, and those that may not.
func TestCheck(t *testing.T) {
	for _, x := range goodOps() {
		if e := op.Check(x); e != api.OK {
			t.Errorf("%+.60v: %v", x, e)
		}
	}
	for _, x := range badOps() {
		if e := op.Check(x); e != api.ErrBad {
			t.Errorf("%+.60v: %v", x, e)
		}
	}
}

// limits are the least and the most of a kind's key (its bytes), value (its bytes), stamp, test and most.
type limits [5][2]int

// limitsOf are what the chapter says of each kind.
func limitsOf() map[int]limits {
	none, stamp, test := [2]int{0, 0}, [2]int{1, 1 << 40}, [2]int{0, 1 << 40}
	key, val := [2]int{1, 64}, [2]int{0, 8192}
	return map[int]limits{
		1: {key, val, stamp, none, none},
		2: {key, val, stamp, test, none},
		3: {key, val, stamp, test, none},
		4: {key, none, none, test, none},
		5: {key, none, none, test, none},
		6: {{0, 64}, none, none, none, {1, 100}},
	}
}

// Promise 8.1: all kinds with all edges of all their fields at once.
func TestCheckModel(t *testing.T) {
	known := limitsOf()
	stamps := []int{math.MinInt, -1, 0, 1, 1 << 40, 1<<40 + 1, math.MaxInt}
	mosts := []int{math.MinInt, -1, 0, 1, 100, 101, math.MaxInt}
	good := 0
	for kind := -1; kind <= 8; kind++ {
		for _, key := range []string{"", "k", long(64), long(65)} {
			for _, val := range []string{"", "v", long(8192), long(8193)} {
				for _, stamp := range stamps {
					for _, test := range stamps {
						for _, most := range mosts {
							l, ok := known[kind]
							for i, n := range []int{len(key), len(val), stamp, test, most} {
								ok = ok && l[i][0] <= n && n <= l[i][1]
							}
							want := api.ErrBad
							if ok {
								want = api.OK
								good++
							}
							if e := op.Check(api.Op{Kind: kind, Key: key, Val: val, Stamp: stamp, Test: test, Most: most}); e != want {
								t.Fatal(kind, len(key), len(val), stamp, test, most, e)
							}
						}
					}
				}
			}
		}
	}
	if good == 0 {
		t.Error("none may be")
	}
}

// Promise 8.1: Writes goes by the kind alone, whatever else the operation has.
func TestWrites(t *testing.T) {
	for kind, want := range map[int]bool{
		api.OAdd: true, api.OReplace: true, api.OSet: true, api.ODelete: true, api.OGet: false, api.OMany: false,
		0: false, -1: false, 7: false, 8: false, 257: false, 1<<32 + 1: false, math.MinInt: false, math.MaxInt: false,
	} {
		for _, x := range []api.Op{{}, {Key: "k", Val: "v", Stamp: 1}, {Key: long(5000), Stamp: -1, Test: -1, Most: 1000}, {Key: "k"}, {Most: 5}} {
			x.Kind = kind
			if op.Writes(x) != want {
				t.Errorf("%+.60v: not %v", x, want)
			}
		}
	}
}

// Promise 8.1: requests that may be, and those that may not.
func TestCheckAll(t *testing.T) {
	for _, r := range goodRequests() {
		if e := op.CheckAll(r); e != api.OK {
			t.Errorf("%+.60v: %v", r, e)
		}
	}
	for _, r := range badRequests() {
		if e := op.CheckAll(r); e != api.ErrBad {
			t.Errorf("%+.60v: %v", r, e)
		}
	}
}

// Promise 8.1: a request whose bytes are too many may be.
func TestCheckAllOfLongOnes(t *testing.T) {
	x := api.Op{Kind: api.OSet, Key: long(api.MaxKey), Val: long(2 * api.MaxVal), Stamp: api.MaxStamp, Test: api.MaxStamp}
	if e := op.CheckAll(request(slices.Repeat([]api.Op{x}, api.MaxOps)...)); e != api.OK {
		t.Error(e)
	}
}

// Rule R4: operations behind the list's length are not read.
func TestCheckAllReadsNoSpareRoom(t *testing.T) {
	room := []api.Op{{Kind: api.OGet, Key: "k"}, {Kind: 99}}
	if e := op.CheckAll(request(room[:1]...)); e != api.OK {
		t.Error(e)
	}
	if e := op.CheckAll(request(room...)); e != api.ErrBad {
		t.Error(e)
	}
	many := slices.Repeat([]api.Op{{Kind: api.OGet, Key: "k"}}, api.MaxOps+1)
	if e := op.CheckAll(request(many[:api.MaxOps]...)); e != api.OK {
		t.Error(e)
	}
}
