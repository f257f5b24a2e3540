package ring

import (
	"cmp"
	"iter"
	"slices"
	"strconv"
)

// none is no chain's number.
const none = -1

// points are those of all chains: their numbers, and beside each its chain.
type points struct {
	at    []uint64
	chain []int
}

// each goes over the points of weights that may be, chain by chain, and tells their chains and numbers.
func each(weights []int) iter.Seq2[int, uint64] {
	return func(yield func(chain int, at uint64) bool) {
		for c, weight := range weights {
			begun := folded(basis, strconv.Itoa(c)+".")
			for i := range weight {
				if !yield(c, mixed(folded(begun, strconv.Itoa(i)))) {
					return
				}
			}
		}
	}
}

// inOrder answers the points of weights that may be, in their order.
func inOrder(weights []int) points {
	var p points
	for c, at := range each(weights) {
		p.add(at, c)
	}
	return p.sorted()
}

func (p *points) add(at uint64, chain int) {
	p.at = append(p.at, at)
	p.chain = append(p.chain, chain)
}

// sorted sorts the places of the points, not the points, for a point's number and its chain lie in two lists.
func (p points) sorted() points {
	places := make([]int, len(p.at))
	for i := range places {
		places[i] = i
	}
	slices.SortFunc(places, p.compare)
	var q points
	for _, i := range places {
		q.add(p.at[i], p.chain[i])
	}
	return q
}

// compare says in which order the points at two places stand. Those of one number stand as they were put down: by chains, then by i.
func (p points) compare(i, k int) int {
	return cmp.Or(cmp.Compare(p.at[i], p.at[k]), cmp.Compare(i, k))
}

// owner answers the chain of the first point that is not below a hash, or else of the first one of all. The points are in order.
func (p points) owner(hash uint64) int {
	i, _ := slices.BinarySearch(p.at, hash)
	return p.chain[i%len(p.chain)]
}

// firstMet answers what owner does, for one hash alone, without the cost of sorting: of all points that one is met first, on the way up from the hash and round over the top, to which the way (which wraps round) is the shortest.
func firstMet(weights []int, hash uint64) int {
	owner, shortest := none, uint64(0)
	for c, at := range each(weights) {
		if way := at - hash; owner == none || way < shortest {
			owner, shortest = c, way
		}
	}
	return owner
}
