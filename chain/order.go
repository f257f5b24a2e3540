package chain

import "slices"

// nowhere is the place of a member that is not in the order.
const nowhere = -1

// order is a chain's bricks, the head first, and the place of one of them.
type order struct {
	bricks []int
	place  int
}

// orderFor answers an order, in memory of its own, with the place that a brick has in it.
func orderFor(id int, bricks []int) order {
	return order{bricks: slices.Clone(bricks), place: slices.Index(bricks, id)}
}

func (o order) hasPlace() bool {
	return o.place != nowhere
}

func (o order) isHead() bool {
	return o.place == 0
}

func (o order) isTail() bool {
	return o.hasPlace() && o.place == len(o.bricks)-1
}

// ahead answers the neighbour ahead, if there is one.
func (o order) ahead() (int, bool) {
	if !o.hasPlace() || o.isHead() {
		return 0, false
	}
	return o.bricks[o.place-1], true
}

// behind answers the neighbour behind, if there is one.
func (o order) behind() (int, bool) {
	if !o.hasPlace() || o.isTail() {
		return 0, false
	}
	return o.bricks[o.place+1], true
}
