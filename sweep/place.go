package sweep

import (
	"cmp"
	"slices"

	"skylark/api"
	"skylark/vals"
)

// frameBytes is how many bytes a value's frame has beside the value's own.
const frameBytes = 8

// place is one of a value, which can be held against another.
type place api.Place

// compare says in which order places stand: by files, then by where they begin, then by how long they are.
func (p place) compare(q place) int {
	return cmp.Or(cmp.Compare(p.File, q.File), cmp.Compare(p.At, q.At), cmp.Compare(p.Long, q.Long))
}

// counts tells whether a value could be as long as a place says.
func (p place) counts() bool {
	return p.Long >= 0 && p.Long <= api.MaxFrame
}

// inOrder answers all places, each once, in their order.
func inOrder(live []api.Place) []place {
	var places []place
	for _, p := range live {
		places = append(places, place(p))
	}
	slices.SortFunc(places, place.compare)
	return slices.Compact(places)
}

// liveBytes answers of each file of places that count, by numbers, the bytes of these.
func liveBytes(live []api.Place) []api.Size {
	var sizes []api.Size
	for _, p := range inOrder(live) {
		if !p.counts() {
			continue
		}
		// Places of one file stand together, so its size is the last one, or not begun.
		if n := len(sizes); n == 0 || sizes[n-1].File != p.File {
			sizes = append(sizes, api.Size{File: p.File})
		}
		sizes[len(sizes)-1].Bytes += p.Long + frameBytes
	}
	return sizes
}

// copied puts the value at a place once more, and answers where.
func copied(v *vals.Vals, from api.Place) (api.Place, api.Errno) {
	value, e := v.Get(from)
	if e != api.OK {
		return api.Place{}, e
	}
	return v.Put(value)
}
