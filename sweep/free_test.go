package sweep_test

import (
	"slices"
	"testing"

	"skylark/api"
	"skylark/sweep"
)

// Promise 12.3: files in which no live place lies are removed, others stay, and those that are not named.
func TestFree(t *testing.T) {
	s := sample(t, 0)
	s.freed([]int{1, 2, 3}, s.places("bb", "f", "g"), 0, api.OK)
	s.holds("1:a.bb.c", "2:dd.e.f", "3:g")
	s.freed([]int{1, 2}, s.places("f"), 1, api.OK)
	s.holds("2:dd.e.f", "3:g")
	s.freed([]int{3}, s.places("a", "f"), 1, api.OK)
	s.holds("2:dd.e.f")
	s.freed(nil, nil, 0, api.OK)
	s.freed([]int{}, []api.Place{}, 0, api.OK)
	s.holds("2:dd.e.f")
	s.freed([]int{2}, nil, 1, api.OK)
	s.holds()
}

// Promise 12.3: files that are not there, or no more, are passed over; one that is named twice is removed once.
func TestFreeNotThere(t *testing.T) {
	s := sample(t, 1000)
	must(t, s.d.Append("val.04", "x"))
	must(t, s.d.Append("val.0", "x"))
	must(t, s.d.Append("other", "x"))
	s.freed(append(far(), 4, 9), nil, 0, api.OK)
	s.holds("1:a.bb.c", "2:dd.e.f", "3:g")
	s.freed(append([]int{2, 2, 4, 0, 2}, far()...), nil, 1, api.OK)
	s.freed([]int{2}, nil, 0, api.OK)
	s.freed([]int{4, 3, 9, 2, 1, 3}, nil, 2, api.OK)
	s.holds()
	is(t, s.d.Names(), api.OK, "other", "val.0", "val.04")
}

// Promise 12.3: a live place lies in its file, wherever it begins and however long it is.
func TestFreeAnyPlace(t *testing.T) {
	s := sample(t, 0)
	for _, n := range far() {
		s.freed([]int{1, 2}, []api.Place{at(1, n, 1), at(2, 0, n)}, 0, api.OK)
		s.freed([]int{2, 1}, []api.Place{at(2, n, n), at(1, n, n), at(n, 0, 1)}, 0, api.OK)
	}
	s.holds("1:a.bb.c", "2:dd.e.f", "3:g")
}

// Promise 12.3: files are removed in the order in which they are named; what the disk refuses ends it, and what was removed ahead stays so.
func TestFreeGoesDown(t *testing.T) {
	for fuse, left := range [][]string{{"1:a.bb.c", "2:dd.e.f", "3:g"}, {"1:a.bb.c", "2:dd.e.f"}, {"2:dd.e.f"}} {
		s := sample(t, 0)
		must(t, s.d.Fuse(fuse))
		s.freed([]int{3, 9, 1, 3, 2}, nil, 0, api.ErrDown)
		s.crash()
		s.holds(left...)
	}
}

// Promise 12.3: a removal takes one call of the disk, and what is passed over none.
func TestFreeCalls(t *testing.T) {
	s := sample(t, 0)
	must(t, s.d.Fuse(1))
	s.freed([]int{9, 1, 0, 2, 1, 3}, s.places("g", "a"), 1, api.OK)
	s.freed([]int{2, 9, 1}, s.places("a"), 0, api.OK)
	s.crash()
	s.holds("1:a.bb.c", "3:g")
}

// Promises 12.1 and 12.3: as many live places as there can be are taken, one more are not, and then nothing is removed.
func TestFreeMost(t *testing.T) {
	s := sample(t, 0)
	s.freed([]int{1, 2}, many(api.MaxItems+1), 0, api.ErrLong)
	s.freed([]int{1, 2}, slices.Repeat([]api.Place{at(9, 0, 0)}, api.MaxItems+1), 0, api.ErrLong)
	s.freed(nil, many(api.MaxItems+1), 0, api.ErrLong)
	s.holds("1:a.bb.c", "2:dd.e.f", "3:g")
	s.freed([]int{1, 2}, many(api.MaxItems), 1, api.OK)
	s.holds("1:a.bb.c", "3:g")
	s.freed([]int{1}, append(many(1), slices.Repeat([]api.Place{at(9, 0, 0)}, api.MaxItems-1)...), 0, api.OK)
	s.freed([]int{1}, append(slices.Repeat([]api.Place{at(9, 0, 0)}, api.MaxItems-1), at(1, 0, 0)), 0, api.OK)
}

// Promise 12.3: as many files as a disk has, and more numbers than that.
func TestFreeManyFiles(t *testing.T) {
	s := stored(t, api.MaxBytes, 1)
	for range api.MaxFiles {
		s.put("x")
	}
	var files []int
	for n := range 100000 {
		files = append(files, n)
	}
	s.freed(files, s.places("x"), api.MaxFiles-1, api.OK)
	s.holds("64:x")
}

// Promise 12.3 and rule R1: without values there is nothing to remove, whatever else is wrong.
func TestFreeNil(t *testing.T) {
	for _, live := range [][]api.Place{nil, many(1), many(api.MaxItems + 1)} {
		for _, files := range [][]int{nil, {1}} {
			if n, e := sweep.Free(nil, files, live); n != 0 || e != api.ErrNone {
				t.Error(n, e)
			}
		}
	}
}

// Rule R4: what is handed in is not changed, nor read behind its end.
func TestFreeMemory(t *testing.T) {
	s := sample(t, 0)
	files := []int{2, 1, 3}
	live := s.places("g", "a", "f", "e")
	was := slices.Clone(live)
	s.freed(files[:2], live[:2], 1, api.OK)
	s.holds("1:a.bb.c", "3:g")
	is(t, files, api.OK, 2, 1, 3)
	is(t, live, api.OK, was...)
}
