package raft_test

import (
	"fmt"
	"math/rand"
	"slices"
	"testing"

	"skylark/api"
	"skylark/disk"
	"skylark/raft"
)

// model is a node by the chapter's words, without disk, ballot and log: numbers of entries count from 1 on.
type model struct {
	id, nodes, patience      int
	term, vote, role, leader int
	waits, committed, taken  int
	entries                  []api.Entry
	voters                   map[int]bool
	next, match              map[int]int
	letters                  []api.Letter
}

// reopened is what a crash leaves of a model.
func (m *model) reopened() *model {
	return &model{id: m.id, nodes: m.nodes, patience: m.patience, term: m.term, vote: m.vote, leader: -1, entries: m.entries}
}

// at is the term at a number, false if there is none.
func (m *model) at(i int) (int, bool) {
	if i < 0 || i > len(m.entries) {
		return 0, false
	}
	if i == 0 {
		return 0, true
	}
	return m.entries[i-1].Term, true
}

func (m *model) send(other int, body string) {
	m.letters = append(m.letters, to(other, body))
}

func (m *model) sendAll(send func(other int)) {
	for i := range m.nodes {
		if i != m.id {
			send(i)
		}
	}
}

func (m *model) sendEntries(other int) {
	next := m.next[other]
	term, _ := m.at(next - 1)
	m.send(other, give(m.term, next-1, term, m.committed, m.entries[next-1:min(len(m.entries), next+7)]...))
}

func (m *model) commit() {
	for n := m.committed + 1; n <= len(m.entries); n++ {
		have := 1
		m.sendAll(func(other int) {
			if m.match[other] >= n {
				have++
			}
		})
		if term, _ := m.at(n); 2*have > m.nodes && term == m.term {
			m.committed = n
		}
	}
}

func (m *model) append(data string) {
	m.entries = append(slices.Clone(m.entries), entry(m.term, data))
	m.sendAll(m.sendEntries)
	if m.nodes == 1 {
		m.commit()
	}
}

func (m *model) lead() {
	m.role, m.leader = 2, m.id
	m.next, m.match = map[int]int{}, map[int]int{}
	m.sendAll(func(other int) { m.next[other] = len(m.entries) + 1 })
	m.append("")
}

func (m *model) tick() api.Errno {
	if m.role == 2 {
		m.sendAll(m.sendEntries)
		return api.OK
	}
	if m.waits++; m.waits < m.patience+m.id {
		return api.OK
	}
	m.waits = 0
	m.term, m.vote = m.term+1, m.id
	m.role, m.leader, m.voters = 1, -1, map[int]bool{m.id: true}
	last, _ := m.at(len(m.entries))
	m.sendAll(func(other int) { m.send(other, ask(m.term, len(m.entries), last)) })
	if m.nodes == 1 {
		m.lead()
	}
	return api.OK
}

func (m *model) propose(data string) (int, api.Errno) {
	if m.role != 2 {
		return 0, api.ErrRole
	}
	if len(data) > 4096 {
		return 0, api.ErrLong
	}
	m.append(data)
	return len(m.entries), api.OK
}

func (m *model) takes(most int) []api.Entry {
	end := min(m.committed, len(m.entries))
	if m.taken >= end {
		return nil
	}
	l := m.entries[m.taken:min(end, m.taken+most)]
	m.taken += len(l)
	return l
}

// meets turns to a term that is above the model's.
func (m *model) meets(term int) {
	if term > m.term {
		m.term, m.vote, m.role, m.leader = term, -1, 0, -1
	}
}

func (m *model) asked(from, term, last, lastTerm int) {
	m.meets(term)
	mine, _ := m.at(len(m.entries))
	given := 0
	if term == m.term && (lastTerm > mine || lastTerm == mine && last >= len(m.entries)) && (m.vote == -1 || m.vote == from) {
		given, m.vote, m.waits = 1, from, 0
	}
	m.send(from, vote(m.term, given))
}

func (m *model) voted(from, term, given int) {
	m.meets(term)
	if term != m.term || m.role != 1 {
		return
	}
	if given == 0 {
		m.waits = 0 - m.patience - m.nodes
		return
	}
	m.voters[from] = true
	if 2*len(m.voters) > m.nodes {
		m.lead()
	}
}

// given takes entries of terms that are terms, and of no great Data.
func (m *model) given(from, term, prev, prevTerm, committed int, entries []api.Entry) api.Errno {
	m.meets(term)
	if term < m.term {
		m.send(from, answer(m.term, 0, len(m.entries)))
		return api.OK
	}
	m.role, m.leader, m.waits = 0, from, 0
	if there, ok := m.at(prev); !ok || there != prevTerm {
		m.send(from, answer(m.term, 0, len(m.entries)))
		return api.OK
	}
	least := prevTerm
	for _, e := range entries {
		if e.Term < least || e.Term > m.term {
			return api.ErrPeer
		}
		least = e.Term
	}
	log := slices.Clone(m.entries)
	for i, e := range entries {
		if n := prev + i; n < len(log) && log[n].Term != e.Term {
			log = log[:n]
		}
		if n := prev + i; n >= len(log) {
			log = append(log, e)
		}
	}
	m.entries = log
	m.committed = max(m.committed, min(committed, prev+len(entries)))
	m.send(from, answer(m.term, 1, prev+len(entries)))
	return api.OK
}

func (m *model) answered(from, term, taken, n int) {
	m.meets(term)
	if term != m.term || m.role != 2 {
		return
	}
	if taken == 0 {
		m.next[from] = max(1, min(m.next[from]-1, n+1))
		m.sendEntries(from)
	} else if n <= len(m.entries) {
		m.match[from] = max(m.match[from], n)
		m.next[from] = m.match[from] + 1
		m.commit()
	}
}

// pair is a node and its model, that are moved alike.
type pair struct {
	t    *testing.T
	draw *rand.Rand
	d    *disk.Disk
	n    *raft.Node
	m    *model
}

// same fails unless the node tells what the model does.
func (p *pair) same(got, want api.Errno) {
	p.t.Helper()
	told(p.t, got, want)
	is(p.t, p.n, p.m.role, p.m.term, p.m.leader, p.m.committed)
	sends(p.t, p.n, p.m.letters...)
	p.m.letters = nil
}

// drawnTerm is the model's term, most often, or one near it.
func (p *pair) drawnTerm() int {
	return max(1, p.m.term+[]int{0, 0, 0, 0, 0, 0, 0, 0, -1, 1}[p.draw.Intn(10)])
}

// drawnEntries are some, mostly such as may stand behind a term, and mostly of terms that the log has.
func (p *pair) drawnEntries(prevTerm, most int) []api.Entry {
	var l []api.Entry
	at := max(1, prevTerm)
	for i := range p.draw.Intn(12) {
		if p.draw.Intn(3) == 0 {
			at = min(at+p.draw.Intn(3), most+p.draw.Intn(40)/39)
		}
		l = append(l, entry(max(1, at-p.draw.Intn(40)/39), fmt.Sprint("e", i, "/", p.draw.Intn(1000))))
	}
	return l
}

func (p *pair) hear() {
	p.t.Helper()
	from := (p.m.id + 1 + p.draw.Intn(p.m.nodes-1)) % p.m.nodes
	term, last := p.drawnTerm(), len(p.m.entries)
	lastTerm, _ := p.m.at(last)
	switch p.draw.Intn(4) {
	case 0:
		last, lastTerm = max(0, last+p.draw.Intn(3)-1), max(0, lastTerm+p.draw.Intn(3)-1)
		e := p.n.Hear(from, ask(term, last, lastTerm))
		p.m.asked(from, term, last, lastTerm)
		p.same(e, api.OK)
	case 1:
		given := p.draw.Intn(6) % 2
		e := p.n.Hear(from, vote(term, given))
		p.m.voted(from, term, given)
		p.same(e, api.OK)
	case 2:
		prev := max(0, last+p.draw.Intn(4)-p.draw.Intn(2+last)-1)
		prevTerm, _ := p.m.at(prev)
		prevTerm += p.draw.Intn(12) / 11
		committed, entries := p.draw.Intn(prev+6), p.drawnEntries(prevTerm, term)
		e := p.n.Hear(from, give(term, prev, prevTerm, committed, entries...))
		p.same(e, p.m.given(from, term, prev, prevTerm, committed, entries))
	case 3:
		taken, n := p.draw.Intn(3)%2, p.draw.Intn(last+2)
		e := p.n.Hear(from, answer(term, taken, n))
		p.m.answered(from, term, taken, n)
		p.same(e, api.OK)
	}
}

// step does one drawn call.
func (p *pair) step(mark int) {
	p.t.Helper()
	switch k := p.draw.Intn(12); {
	case k < 3:
		p.same(p.n.Tick(), p.m.tick())
	case k == 3:
		data := fmt.Sprint(mark) + long(p.draw.Intn(30)/29*4096)
		got, e := p.n.Propose(data)
		want, wantE := p.m.propose(data)
		if got != want {
			p.t.Error(got, want)
		}
		p.same(e, wantE)
	case k == 4:
		most := p.draw.Intn(5)
		takes(p.t, p.n, most, p.m.takes(most)...)
	case k == 5 && p.draw.Intn(8) == 0:
		must(p.t, p.d.Crash([]int{p.draw.Intn(100)}))
		p.n, p.m = opened(p.t, p.m.id, p.m.nodes, p.m.patience, p.d), p.m.reopened()
		has(p.t, p.d, p.m.nodes, p.m.term, p.m.vote, p.m.entries...)
		p.same(api.OK, api.OK)
	case p.m.nodes > 1:
		p.hear()
	}
}

// Promises 16.1 to 16.4: drawn calls, letters that a peer of the protocol would never send among them, are answered as the chapter's words say, at whatever role, and leave the disk so.
func TestDrawnCalls(t *testing.T) {
	var roles [3]int
	for seed := range int64(400) {
		draw := rand.New(rand.NewSource(seed))
		nodes := 1 + draw.Intn(5)
		m := &model{id: draw.Intn(nodes), nodes: nodes, patience: 1 + draw.Intn(4), vote: -1, leader: -1}
		p := &pair{t: t, draw: draw, d: newDisk(t, api.MaxBytes), m: m}
		p.n = opened(t, m.id, nodes, m.patience, p.d)
		for mark := range 300 {
			p.step(mark)
			roles[p.m.role]++
			if t.Failed() {
				t.Fatal(seed, mark)
			}
		}
		has(t, p.d, nodes, p.m.term, p.m.vote, p.m.entries...)
	}
	if slices.Min(roles[:]) < 5000 {
		t.Error(roles)
	}
}
