package trio_test

import (
	"fmt"
	"math/rand"
	"slices"
	"testing"

	"skylark/api"
	"skylark/disk"
	"skylark/raft"
	"skylark/trio"
)

// post is a letter on its way.
type post struct {
	from, to int
	body     string
}

// model is a trio as simple as can be, by the chapter's words: its letters are a plain list, each of which is looked up by itself.
type model struct {
	patience int
	disks    []*disk.Disk
	nodes    []*raft.Node
	up       []bool
	took     [][]api.Entry
	mail     []post
	parted   map[[2]int]bool
}

func newModel(nodes, patience int) *model {
	m := &model{patience: patience, disks: make([]*disk.Disk, nodes), nodes: make([]*raft.Node, nodes), up: make([]bool, nodes), took: make([][]api.Entry, nodes), parted: map[[2]int]bool{}}
	for id := range nodes {
		m.disks[id], _ = disk.New(60000)
		m.open(id)
	}
	return m
}

func (m *model) open(id int) {
	n, e := raft.Open(id, len(m.disks), m.patience, m.disks[id])
	if e != api.OK {
		panic(e)
	}
	m.nodes[id], m.up[id], m.took[id] = n, true, nil
}

// node answers which node a number says: the least one from 0 on that is unlike it by a multiple of how many there are.
func (m *model) node(n int) int {
	return modulo(n, len(m.nodes))
}

func modulo(n, many int) int {
	n %= many
	if n < 0 {
		n += many
	}
	return n
}

// after takes what a call of a node came to.
func (m *model) after(id int, e api.Errno) {
	if e == api.ErrDown || e == api.ErrSpace {
		m.up[id] = false
		return
	}
	for _, l := range m.nodes[id].Letters() {
		m.send(post{id, l.To, l.Body})
	}
	l, e := m.nodes[id].Taken(1 << 20)
	if e != api.OK {
		panic(e)
	}
	m.took[id] = append(m.took[id], l...)
}

func (m *model) send(p post) {
	if len(m.mail) < api.MaxItems && len(p.body) <= api.MaxFrame {
		m.mail = append(m.mail, p)
	}
}

func (m *model) tick(id int) {
	if m.up[id] {
		m.after(id, m.nodes[id].Tick())
	}
}

func (m *model) isParted(p post) bool {
	return m.parted[[2]int{p.from, p.to}] || m.parted[[2]int{p.to, p.from}]
}

// drop takes a letter from its way, unheard.
func (m *model) drop(at int) post {
	p := m.mail[at]
	m.mail = slices.Delete(m.mail, at, at+1)
	return p
}

func (m *model) hear(p post) {
	if m.up[p.to] {
		m.after(p.to, m.nodes[p.to].Hear(p.from, p.body))
	}
}

func (m *model) round() {
	for id := range m.nodes {
		m.tick(id)
	}
	for range 2000 {
		if len(m.mail) == 0 {
			break
		}
		p := m.drop(0)
		if !m.isParted(p) {
			m.hear(p)
		}
	}
}

func (m *model) crash(id int, draws []int) {
	if len(draws) > api.MaxItems {
		draws = nil
	}
	m.disks[id].Crash(draws)
	m.mail = slices.DeleteFunc(m.mail, func(p post) bool { return p.from == id || p.to == id })
	m.open(id)
}

func (m *model) propose(id int, data string) (int, api.Errno) {
	if !m.up[id] {
		return 0, api.ErrDown
	}
	n, e := m.nodes[id].Propose(data)
	m.after(id, e)
	if !m.up[id] {
		return 0, api.ErrDown
	}
	return n, e
}

func (m *model) do(a api.Act) (int, api.Errno) {
	id, other := m.node(a.N), m.node(a.I)
	at := -1
	if len(m.mail) > 0 {
		at = modulo(a.I, len(m.mail))
	}
	switch {
	case a.Kind == api.TTick:
		m.tick(id)
	case a.Kind == api.TDeliver && at >= 0:
		if !m.isParted(m.mail[at]) {
			m.hear(m.drop(at))
		}
	case a.Kind == api.TLose && at >= 0:
		m.drop(at)
	case a.Kind == api.TCopy && at >= 0:
		m.send(m.mail[at])
	case a.Kind == api.TPart && id != other:
		m.parted[[2]int{id, other}] = true
	case a.Kind == api.TJoin:
		delete(m.parted, [2]int{id, other})
		delete(m.parted, [2]int{other, id})
	case a.Kind == api.TPropose:
		return m.propose(id, a.Data)
	case a.Kind == api.TCrash:
		m.crash(id, a.Draws)
	case a.Kind == api.TFuse:
		m.disks[id].Fuse(modulo(a.I, 40))
	case a.Kind == api.TRound:
		m.round()
	case a.Kind < 0 || a.Kind > api.TRound:
		return 0, api.ErrAct
	}
	return 0, api.OK
}

// same fails unless a trio tells just what the model does.
func same(t *testing.T, x *trio.Trio, m *model, wide int) {
	t.Helper()
	onWay(t, x, len(m.mail))
	for id := range m.nodes {
		role, term, leader, committed := m.nodes[id].State()
		want := view{role, term, leader, committed, m.up[id]}
		asked := id + wide*len(m.nodes)
		is(t, x, asked, want)
		took(t, x, asked, m.took[id]...)
	}
}

// drawnAct is an act of any kind, with numbers around those that there are, and some far from them.
func drawnAct(draw *rand.Rand, nodes, step int) api.Act {
	kinds := []int{api.TTick, api.TTick, api.TTick, api.TTick, api.TDeliver, api.TDeliver, api.TDeliver, api.TDeliver, api.TDeliver, api.TDeliver, api.TLose, api.TCopy, api.TPropose, api.TPropose, api.TRound, api.TRound}
	a := api.Act{Kind: kinds[draw.Intn(len(kinds))], N: draw.Intn(3*nodes) - nodes, I: draw.Intn(60) - 20, Data: fmt.Sprint(step)}
	switch draw.Intn(40) {
	case 0:
		a.N, a.I = int(draw.Uint64()), int(draw.Uint64())
	case 1:
		a.Data = long(draw.Intn(5000))
	case 2:
		a.Kind = api.TCrash
	case 3:
		a.Kind = api.TFuse
	case 4:
		a.Kind = api.TPart
	case 5, 6:
		a.Kind = api.TJoin
	case 7:
		a.Kind = draw.Intn(30) - 10
	}
	for range draw.Intn(3) {
		a.Draws = append(a.Draws, draw.Intn(200)-20)
	}
	return a
}

// Promise 17.1 and all acts: drawn acts do what they do to the model, each of them.
func TestAsModel(t *testing.T) {
	for seed := range int64(200) {
		draw := rand.New(rand.NewSource(seed))
		nodes, patience := 1+draw.Intn(9), 1+draw.Intn(4)
		x, m := newTrio(t, nodes, patience), newModel(nodes, patience)
		for step := range 200 {
			a := drawnAct(draw, nodes, step)
			got, gotE := x.Do(a)
			want, wantE := m.do(a)
			if got != want || gotE != wantE {
				t.Errorf("%s: %v %v, not %v %v", brief(a), got, gotE, want, wantE)
			}
			same(t, x, m, draw.Intn(5)-2)
			if t.Failed() {
				t.Fatalf("seed %d, step %d, %d nodes, patience %d: %s", seed, step, nodes, patience, brief(a))
			}
		}
	}
}

// Acts: letters that fill the net, of which rounds carry 2000, do what they do to the model.
func TestAsModelFull(t *testing.T) {
	for seed := range int64(6) {
		draw := rand.New(rand.NewSource(seed))
		nodes, patience := 2+draw.Intn(4), 2+draw.Intn(3)
		x, m := newTrio(t, nodes, patience), newModel(nodes, patience)
		do := func(a api.Act) {
			t.Helper()
			got, gotE := x.Do(a)
			want, wantE := m.do(a)
			if got != want || gotE != wantE {
				t.Fatalf("%s: %v %v, not %v %v", brief(a), got, gotE, want, wantE)
			}
		}
		for range 4 {
			do(api.Act{Kind: api.TTick, N: draw.Intn(nodes)})
			do(api.Act{Kind: api.TTick, N: draw.Intn(nodes)})
			do(api.Act{Kind: api.TTick, N: 0})
			do(api.Act{Kind: api.TTick, N: 0})
			for range 1500 {
				do(api.Act{Kind: api.TCopy, I: draw.Intn(5000)})
			}
			do(api.Act{Kind: api.TPropose, N: draw.Intn(nodes), Data: "a"})
			do(api.Act{Kind: []int{api.TPart, api.TJoin, api.TCrash, api.TRound}[draw.Intn(4)], N: draw.Intn(nodes), I: draw.Intn(nodes)})
			do(api.Act{Kind: api.TRound})
			same(t, x, m, 0)
		}
	}
}
