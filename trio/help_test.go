package trio_test

import (
	"fmt"
	"slices"
	"strings"
	"testing"

	"skylark/api"
	"skylark/raft"
	"skylark/trio"
)

// brief is the beginning of what something looks like.
func brief(x any) string {
	s := fmt.Sprintf("%#v", x)
	return s[:min(len(s), 400)]
}

// view is what State tells of a node.
type view struct {
	role, term, leader, committed int
	up                            bool
}

// seen is what a trio tells of a node.
func seen(x *trio.Trio, node int) view {
	role, term, leader, committed, up := x.State(node)
	return view{role, term, leader, committed, up}
}

func newTrio(t *testing.T, nodes, patience int) *trio.Trio {
	t.Helper()
	x, e := trio.New(nodes, patience)
	if x == nil || e != api.OK {
		t.Fatal(nodes, patience, x, e)
	}
	return x
}

// does fails unless an act answers 0 and OK.
func does(t *testing.T, x *trio.Trio, a api.Act) {
	t.Helper()
	if n, e := x.Do(a); n != 0 || e != api.OK {
		t.Fatalf("%s: %v %v", brief(a), n, e)
	}
}

// ticks lets so many ticks of a node go by.
func ticks(t *testing.T, x *trio.Trio, node, many int) {
	t.Helper()
	for range many {
		does(t, x, api.Act{Kind: api.TTick, N: node})
	}
}

// rounds lets so many rounds go by.
func rounds(t *testing.T, x *trio.Trio, many int) {
	t.Helper()
	for range many {
		does(t, x, api.Act{Kind: api.TRound})
	}
}

// delivers lets the letter of a number, in order, be heard.
func delivers(t *testing.T, x *trio.Trio, i int) {
	t.Helper()
	does(t, x, api.Act{Kind: api.TDeliver, I: i})
}

// proposes fails unless a proposal answers that.
func proposes(t *testing.T, x *trio.Trio, node int, data string, want int, wantE api.Errno) {
	t.Helper()
	if n, e := x.Do(api.Act{Kind: api.TPropose, N: node, Data: data}); n != want || e != wantE {
		t.Errorf("%d %.40q: %v %v, not %v %v", node, data, n, e, want, wantE)
	}
}

// is fails unless the trio tells that of a node.
func is(t *testing.T, x *trio.Trio, node int, want view) {
	t.Helper()
	if got := seen(x, node); got != want {
		t.Errorf("node %d: %v, not %v", node, got, want)
	}
}

// onWay fails unless so many letters are on their way.
func onWay(t *testing.T, x *trio.Trio, want int) {
	t.Helper()
	if got := x.Letters(); got != want {
		t.Errorf("%d letters, not %d", got, want)
	}
}

// took fails unless these are the entries that a node took.
func took(t *testing.T, x *trio.Trio, node int, want ...api.Entry) {
	t.Helper()
	if got := x.Took(node); !slices.Equal(got, want) {
		t.Errorf("node %d: %s, not %s", node, brief(got), brief(want))
	}
}

// goesDown lets a node go down at its next call of the disk, by ticks, as long as it does not lead.
func goesDown(t *testing.T, x *trio.Trio, node, patience int) {
	t.Helper()
	does(t, x, api.Act{Kind: api.TFuse, N: node})
	for range 3 * (patience + 9) {
		ticks(t, x, node, 1)
	}
	if seen(x, node).up {
		t.Fatal(node, seen(x, node))
	}
}

// entry is one of a term with a text.
func entry(term int, data string) api.Entry {
	return api.Entry{Term: term, Data: data}
}

// long is a text of so many bytes.
func long(size int) string {
	return strings.Repeat("d", size)
}

// asking is three nodes of the patience 2, of which the node 0 has asked the others for their votes.
func asking(t *testing.T) *trio.Trio {
	t.Helper()
	x := newTrio(t, 3, 2)
	ticks(t, x, 0, 2)
	is(t, x, 0, view{raft.RAsk, 1, -1, 0, true})
	onWay(t, x, 2)
	return x
}

// led is so many nodes, of which the node 0 leads in the term 1, and all took its empty entry.
func led(t *testing.T, nodes, patience int) *trio.Trio {
	t.Helper()
	x := newTrio(t, nodes, patience)
	rounds(t, x, patience+1)
	for id := range nodes {
		role := raft.RFollow
		if id == 0 {
			role = raft.RLead
		}
		is(t, x, id, view{role, 1, 0, 1, true})
		took(t, x, id, entry(1, ""))
	}
	onWay(t, x, 0)
	return x
}
