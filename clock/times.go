package clock

import "slices"

// times are the nodes' times, by the nodes' numbers; there is at least one.
type times struct {
	list []int
}

func newTimes(nodes int) times {
	return times{list: make([]int, nodes)}
}

// has tells whether there is such a node.
func (t *times) has(node int) bool {
	return node >= 0 && node < len(t.list)
}

func (t *times) at(node int) int {
	return t.list[node]
}

func (t *times) greatest() int {
	return slices.Max(t.list)
}

func (t *times) least() int {
	return slices.Min(t.list)
}

func (t *times) goOn(node, n int) {
	t.list[node] += n
}

func (t *times) allGoOn(n int) {
	for node := range t.list {
		t.goOn(node, n)
	}
}

func (t *times) copied() times {
	return times{list: slices.Clone(t.list)}
}
