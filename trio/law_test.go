package trio_test

import (
	"fmt"
	"math"
	"math/rand"
	"testing"

	"skylark/api"
	"skylark/raft"
	"skylark/trio"
)

// watch is a trio, and what was ever seen of it: who led in a term.
type watch struct {
	t     *testing.T
	x     *trio.Trio
	nodes int
	led   map[int]int
}

// look fails if a node leads in a term in which another one led, or took unlike entries.
func (w *watch) look() {
	w.t.Helper()
	var longest []api.Entry
	for id := range w.nodes {
		if v := seen(w.x, id); v.role == raft.RLead {
			if other, ok := w.led[v.term]; ok && other != id {
				w.t.Fatalf("%d and %d lead in the term %d", id, other, v.term)
			}
			w.led[v.term] = id
		}
		l := w.x.Took(id)
		for i := range min(len(l), len(longest)) {
			if l[i] != longest[i] {
				w.t.Fatalf("node %d took %v at %d, not %v", id, l[i], i+1, longest[i])
			}
		}
		if len(l) > len(longest) {
			longest = l
		}
	}
}

// rough is an act of those that go wrong, now and then.
func rough(draw *rand.Rand, nodes int) api.Act {
	a := api.Act{Kind: []int{api.TCrash, api.TFuse, api.TPart, api.TJoin, api.TJoin, api.TRound}[draw.Intn(6)], N: draw.Intn(nodes), I: draw.Intn(40)}
	for range draw.Intn(3) {
		a.Draws = append(a.Draws, draw.Intn(200))
	}
	return a
}

// chaos lets drawn acts happen: letters come in any order, are lost and copied; nodes are parted, go down, and come back.
func (w *watch) chaos(draw *rand.Rand, steps int) {
	w.t.Helper()
	for step := range steps {
		a := api.Act{Kind: []int{api.TTick, api.TDeliver, api.TDeliver, api.TDeliver, api.TLose, api.TCopy, api.TPropose}[draw.Intn(7)], N: draw.Intn(w.nodes), I: draw.Intn(200), Data: fmt.Sprint(step)}
		if draw.Intn(12) == 0 {
			a = rough(draw, w.nodes)
		}
		w.x.Do(a)
		w.look()
	}
}

// Promise 17.2: what any two took is the same as far as both have it, and no two lead in one term, whatever is lost, copied, parted and crashed.
func TestAgree(t *testing.T) {
	most, terms := 0, 0
	for seed := range int64(150) {
		draw := rand.New(rand.NewSource(seed))
		nodes := 1 + draw.Intn(9)
		w := &watch{t, newTrio(t, nodes, 1+draw.Intn(4)), nodes, map[int]int{}}
		w.chaos(draw, 600)
		terms += len(w.led)
		for id := range nodes {
			most = max(most, len(w.x.Took(id)))
		}
	}
	if most < 20 || terms < 300 {
		t.Error(most, terms)
	}
}

// comes fails unless one leads within the rounds of promise 17.3, and what it is then proposed is taken by all that are up within 8 more.
func (w *watch) comes(patience int) {
	w.t.Helper()
	leader := w.leader()
	for left := 12 * (patience + w.nodes); left > 0 && leader < 0; left-- {
		rounds(w.t, w.x, 1)
		w.look()
		leader = w.leader()
	}
	if leader < 0 {
		w.t.Fatal("none leads")
	}
	number, e := w.x.Do(api.Act{Kind: api.TPropose, N: leader, Data: "mark"})
	if e != api.OK {
		w.t.Fatal(leader, e)
	}
	for left := 8; left > 0 && !w.haveTaken(number, "mark"); left-- {
		rounds(w.t, w.x, 1)
		w.look()
	}
	if !w.haveTaken(number, "mark") {
		w.t.Fatalf("%d was not taken by all", number)
	}
}

// leader answers which one leads of those that are up, in the last term of any of them; -1, if none does.
func (w *watch) leader() int {
	leader, last := -1, 0
	for id := range w.nodes {
		v := seen(w.x, id)
		if v.up && v.term > last {
			leader, last = -1, v.term
		}
		if v.up && v.role == raft.RLead && v.term == last {
			leader = id
		}
	}
	return leader
}

func (w *watch) haveTaken(number int, data string) bool {
	for id := range w.nodes {
		l := w.x.Took(id)
		if seen(w.x, id).up && (len(l) < number || l[number-1].Data != data) {
			return false
		}
	}
	return true
}

// minorities calls with each set of nodes that are fewer than half of them.
func minorities(nodes int, each func(down []int)) {
	for set := range 1 << nodes {
		var down []int
		for id := range nodes {
			if set>>id&1 == 1 {
				down = append(down, id)
			}
		}
		if 2*len(down) < nodes {
			each(down)
		}
	}
}

// Promise 17.3: in a trio in which nothing has happened but that some nodes, fewer than half of them, went down, be it which they may.
func TestComesAtFirst(t *testing.T) {
	for nodes := 1; nodes <= 9; nodes++ {
		for _, patience := range []int{1, 2, 3, 10} {
			minorities(nodes, func(down []int) {
				w := &watch{t, newTrio(t, nodes, patience), nodes, map[int]int{}}
				for _, id := range down {
					goesDown(t, w.x, id, patience)
				}
				w.comes(patience)
			})
		}
	}
}

// Promise 17.3: the longest patience there is comes to an end, too.
func TestComesLate(t *testing.T) {
	for _, nodes := range []int{1, 2, 9} {
		w := &watch{t, newTrio(t, nodes, 1000), nodes, map[int]int{}}
		w.comes(1000)
	}
}

// Promise 17.3: those that led go down one after the other, as long as more than half are up.
func TestComesAgain(t *testing.T) {
	for nodes := 1; nodes <= 9; nodes++ {
		for _, patience := range []int{2, 5} {
			w := &watch{t, newTrio(t, nodes, patience), nodes, map[int]int{}}
			w.comes(patience)
			for range (nodes - 1) / 2 {
				id := w.leader()
				does(t, w.x, api.Act{Kind: api.TFuse, N: id})
				w.x.Do(api.Act{Kind: api.TPropose, N: id, Data: "lost"})
				if seen(w.x, id).up {
					t.Fatal(nodes, patience, id)
				}
				w.comes(patience)
			}
		}
	}
}

// Promise 17.3: behind drawn acts, once all nodes are joined, and those that are down came back but for fewer than half.
func TestComesBehindAll(t *testing.T) {
	for seed := range int64(120) {
		draw := rand.New(rand.NewSource(seed))
		nodes, patience := 1+draw.Intn(9), 2+draw.Intn(4)
		w := &watch{t, newTrio(t, nodes, patience), nodes, map[int]int{}}
		w.chaos(draw, 300)
		w.heal(draw)
		w.comes(patience)
	}
}

// heal joins all nodes, and crashes those that are down, but for some, fewer than half; those that are up have no fuse.
func (w *watch) heal(draw *rand.Rand) {
	w.t.Helper()
	mayStay := draw.Intn((w.nodes + 1) / 2)
	for id := range w.nodes {
		for other := range id {
			does(w.t, w.x, api.Act{Kind: api.TJoin, N: id, I: other})
		}
		if !seen(w.x, id).up && mayStay > 0 {
			mayStay--
			continue
		}
		does(w.t, w.x, api.Act{Kind: api.TCrash, N: id})
	}
	w.look()
}

// Promise P1: nothing panics, whatever is told.
func TestNoPanic(t *testing.T) {
	wide := []int{math.MinInt, math.MinInt + 1, -1 << 32, -41, -1, 0, 1, 41, 1 << 32, math.MaxInt - 1, math.MaxInt}
	for nodes := 1; nodes <= 9; nodes += 4 {
		x := newTrio(t, nodes, 1)
		for kind := -2; kind < 13; kind++ {
			for _, n := range wide {
				for _, i := range wide {
					x.Do(api.Act{Kind: kind, N: n, I: i, Data: "\xff", Draws: wide})
					x.Took(n)
					x.State(i)
					x.Letters()
				}
			}
		}
	}
}
