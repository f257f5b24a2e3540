package net_test

import (
	"math/rand"
	"slices"
	"strings"
	"testing"

	"skylark/api"
	"skylark/net"
)

// model is a net as simple as can be, by the chapter's words: all letters that were ever sent or copied, of which some are gone.
type model struct {
	nodes  int
	all    []net.Letter
	gone   []bool
	parted [api.MaxNodes][api.MaxNodes]bool
}

func (m *model) onTheirWay() []net.Letter {
	var l []net.Letter
	for i, x := range m.all {
		if !m.gone[i] {
			l = append(l, x)
		}
	}
	return l
}

func (m *model) none(id int) bool { return id < 0 || id >= len(m.all) || m.gone[id] }

func (m *model) outside(a, b int) bool { return a < 0 || b < 0 || a >= m.nodes || b >= m.nodes }

func (m *model) send(from, to int, body string) (int, api.Errno) {
	if m.outside(from, to) {
		return 0, api.ErrNode
	}
	if len(body) > api.MaxFrame {
		return 0, api.ErrLong
	}
	m.all = append(m.all, net.Letter{Id: len(m.all), From: from, To: to, Body: body})
	m.gone = append(m.gone, false)
	return len(m.all) - 1, api.OK
}

func (m *model) take(id int) (net.Letter, api.Errno) {
	if m.none(id) {
		return net.Letter{}, api.ErrNone
	}
	l := m.all[id]
	if m.parted[l.From][l.To] {
		return net.Letter{}, api.ErrShape
	}
	m.gone[id] = true
	return l, api.OK
}

func (m *model) lose(id int) api.Errno {
	if m.none(id) {
		return api.ErrNone
	}
	m.gone[id] = true
	return api.OK
}

func (m *model) copy(id int) (int, api.Errno) {
	if m.none(id) {
		return 0, api.ErrNone
	}
	return m.send(m.all[id].From, m.all[id].To, m.all[id].Body)
}

func (m *model) part(a, b int, parted bool) api.Errno {
	if m.outside(a, b) {
		return api.ErrNode
	}
	if parted && a == b {
		return api.ErrShape
	}
	m.parted[a][b], m.parted[b][a] = parted, parted
	return api.OK
}

func (m *model) drop(node int) (int, api.Errno) {
	if m.outside(node, node) {
		return 0, api.ErrNode
	}
	k := 0
	for i, l := range m.all {
		if !m.gone[i] && (l.From == node || l.To == node) {
			m.gone[i] = true
			k++
		}
	}
	return k, api.OK
}

// drawnCall does one call, drawn, on the net and on the model, and fails unless both tell the same.
func drawnCall(t *testing.T, r *rand.Rand, n *net.Net, m *model) {
	t.Helper()
	a, b := r.Intn(m.nodes+2)-1, r.Intn(m.nodes+2)-1
	id := r.Intn(len(m.all)+3) - 1
	if l := m.onTheirWay(); len(l) > 0 && r.Intn(4) > 0 {
		id = l[r.Intn(len(l))].Id
	}
	switch k := r.Intn(40); {
	case k < 14:
		body := strings.Repeat(string(rune('a'+r.Intn(26))), r.Intn(5))
		if r.Intn(30) == 0 {
			body = strings.Repeat("z", api.MaxFrame+r.Intn(2))
		}
		want, wantE := m.send(a, b, body)
		got, e := n.Send(a, b, body)
		number(t, got, e, want, wantE)
	case k < 22:
		want, wantE := m.take(id)
		if got, e := n.Take(id); got != want || e != wantE {
			t.Errorf("take %d: %v %v, not %v %v", id, got, e, want, wantE)
		}
	case k < 25:
		told(t, n.Lose(id), m.lose(id))
	case k < 29:
		want, wantE := m.copy(id)
		got, e := n.Copy(id)
		number(t, got, e, want, wantE)
	case k < 33:
		told(t, n.Part(a, b), m.part(a, b, true))
	case k < 37:
		told(t, n.Join(a, b), m.part(a, b, false))
	case k < 39:
		p, e := n.Parted(a, b)
		if m.outside(a, b) != (e == api.ErrNode) || p != (e == api.OK && m.parted[a][b]) {
			t.Error(a, b, p, e)
		}
	default:
		want, wantE := m.drop(a)
		got, e := n.Drop(a)
		number(t, got, e, want, wantE)
	}
}

// Promises 3.1 to 3.4: a net tells what the model tells, call by call, and has what it has.
func TestModel(t *testing.T) {
	for seed := range 60 {
		r := rand.New(rand.NewSource(int64(seed)))
		m := &model{nodes: []int{1, 2, 3, 5, api.MaxNodes}[seed%5]}
		n := newNet(t, m.nodes)
		for i := range 300 {
			drawnCall(t, r, n, m)
			now := stateOf(t, n, m.nodes)
			if !slices.Equal(now.letters, m.onTheirWay()) {
				t.Fatal(seed, i, now.letters, m.onTheirWay())
			}
			for at, p := range now.parted {
				if p != m.parted[at/m.nodes][at%m.nodes] {
					t.Fatal(seed, i, at)
				}
			}
			if t.Failed() {
				t.Fatal(seed, i)
			}
		}
	}
}
