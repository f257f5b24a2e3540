package chain

import (
	"slices"
	"testing"
	"unsafe"
)

// What is taken from a line, and what is left in it, lie in lists of their own; a line holds on to nothing that was taken.
func TestLine(t *testing.T) {
	var l line[int]
	if l.many() != 0 || len(l.first(3)) != 0 || len(taken(&l, 0)) != 0 {
		t.Error(l)
	}
	for n := range 20 {
		l.put(n)
	}
	if l.many() != 20 || !slices.Equal(l.first(3), []int{0, 1, 2}) || len(l.first(21)) != 20 || len(l.first(0)) != 0 {
		t.Error(l)
	}
	front := taken(&l, 3)
	if !slices.Equal(front, []int{0, 1, 2}) || cap(front) != 3 || l.many() != 17 || l.list[0] != 3 {
		t.Error(front, l)
	}
	if unsafe.Pointer(&l.list[0]) == unsafe.Add(unsafe.Pointer(&front[0]), 3*unsafe.Sizeof(front[0])) {
		t.Error("what is left lies behind what was taken")
	}
	l.put(20)
	if l.many() != 18 || l.list[17] != 20 {
		t.Error(l)
	}
	if all := taken(&l, 18); len(all) != 18 || cap(all) != 18 || l.many() != 0 || cap(l.list) != 0 {
		t.Error(all, cap(l.list))
	}
}
