package clock_test

import (
	"math/rand"
	"slices"
	"testing"

	"skylark/api"
	"skylark/clock"
)

// model is a clock as simple as can be, by the chapter's words: its times, and the words of its seed that are still ahead.
type model struct {
	times []int
	ahead []uint64
}

func (m *model) outside(node int) bool { return node < 0 || node >= len(m.times) }

func (m *model) step(node, n int) (int, api.Errno) {
	if m.outside(node) {
		return 0, api.ErrNode
	}
	if n < 0 {
		return 0, api.ErrRange
	}
	if m.times[node]+n > api.MaxTicks {
		return 0, api.ErrLong
	}
	m.times[node] += n
	return m.times[node], api.OK
}

func (m *model) all(n int) api.Errno {
	like := model{times: slices.Clone(m.times)}
	for node := range like.times {
		if _, e := like.step(node, n); e != api.OK {
			return e
		}
	}
	m.times = like.times
	return api.OK
}

func (m *model) apart() int {
	most := 0
	for _, a := range m.times {
		for _, b := range m.times {
			most = max(most, a-b)
		}
	}
	return most
}

func (m *model) draw(n int) (int, api.Errno) {
	if n < 1 || n > 1<<31 {
		return 0, api.ErrRange
	}
	w := m.ahead[0]
	m.ahead = m.ahead[1:]
	return int(w % uint64(n)), api.OK
}

func (m *model) fork() *model {
	return &model{times: slices.Clone(m.times), ahead: m.ahead}
}

// drawnCall does one call, drawn, on the clock and on the model, and fails unless both tell the same.
func drawnCall(t *testing.T, r *rand.Rand, c *clock.Clock, m *model) {
	t.Helper()
	node, n := r.Intn(len(m.times)+2)-1, r.Intn(50)-2
	if r.Intn(10) == 0 {
		n = api.MaxTicks - r.Intn(100)
	}
	switch r.Intn(4) {
	case 0:
		want, wantE := m.step(node, n)
		steps(t, c, node, n, want, wantE)
	case 1:
		told(t, c.All(n), m.all(n))
	case 2:
		want, wantE := m.draw(n)
		got, e := c.Draw(n)
		number(t, got, e, want, wantE)
	default:
		if got := c.Apart(); got != m.apart() {
			t.Errorf("%v, not %v", got, m.apart())
		}
	}
}

// fell tells whether one of the times is less than it was.
func fell(was, is []int) bool {
	for node := range was {
		if is[node] < was[node] {
			return true
		}
	}
	return false
}

// Promises 4.1 to 4.3: a clock and its forks tell what their models tell, call by call; times never fall, and are never above api.MaxTicks.
func TestModel(t *testing.T) {
	for seed := range 60 {
		r := rand.New(rand.NewSource(int64(seed)))
		nodes := []int{1, 2, 3, 5, api.MaxNodes}[seed%5]
		from := r.Uint64()
		clocks := []*clock.Clock{newClock(t, nodes, from)}
		models := []*model{{times: make([]int, nodes), ahead: words(from, 200)}}
		for i := range 200 {
			at := r.Intn(len(clocks))
			if r.Intn(40) == 0 {
				clocks, models = append(clocks, clocks[at].Fork()), append(models, models[at].fork())
			}
			was := times(t, clocks[at], nodes)
			drawnCall(t, r, clocks[at], models[at])
			if is := times(t, clocks[at], nodes); fell(was, is) || slices.Max(is) > api.MaxTicks {
				t.Fatal(seed, i, was, is)
			}
			for k := range clocks {
				shows(t, clocks[k], models[k].times...)
			}
			if t.Failed() {
				t.Fatal(seed, i)
			}
		}
	}
}
