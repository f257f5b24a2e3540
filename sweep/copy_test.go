package sweep_test

import (
	"slices"
	"strings"
	"testing"

	"skylark/api"
	"skylark/sweep"
)

// sample is file 1 with a, bb and c, file 2 with dd, e and f, and file 3 with g; there is room for so many bytes more.
func sample(t *testing.T, more int) *store {
	t.Helper()
	s := stored(t, 65+more, 20, "a", "bb", "c", "dd", "e", "f", "g")
	s.holds("1:a.bb.c", "2:dd.e.f", "3:g")
	return s
}

// Promise 12.2: places are copied by File, then by At, each once, whatever the order of places and files; others are not.
func TestCopyOrder(t *testing.T) {
	s := sample(t, 1000)
	live := s.places("f", "a", "g", "c", "a", "dd", "f", "c")
	s.moved([]int{2, 9, 1, 2}, live,
		api.Move{From: at(1, 0, 1), To: at(3, 9, 1)}, api.Move{From: at(1, 19, 1), To: at(3, 18, 1)},
		api.Move{From: at(2, 0, 2), To: at(4, 0, 2)}, api.Move{From: at(2, 19, 1), To: at(4, 10, 1)})
	s.holds("1:a.bb.c", "2:dd.e.f", "3:g.a.c", "4:dd.f")
	s.has(live, []string{"f", "a", "g", "c", "a", "dd", "f", "c"})
}

// Promise 12.2: files stand by numbers, not by digits, and places by At likewise.
func TestCopyByNumbers(t *testing.T) {
	var values []string
	for _, c := range "abcdefghijkl" {
		values = append(values, string(c))
	}
	s := stored(t, 1000, 1, values...)
	s.moved([]int{10, 9, 2}, s.places("j", "i", "b"), api.Move{From: at(2, 0, 1), To: at(13, 0, 1)}, api.Move{From: at(9, 0, 1), To: at(14, 0, 1)}, api.Move{From: at(10, 0, 1), To: at(15, 0, 1)})
	s = stored(t, 1000, 1000, values...)
	s.moved([]int{1}, s.places("l", "c", "b"), api.Move{From: at(1, 9, 1), To: at(1, 108, 1)}, api.Move{From: at(1, 18, 1), To: at(1, 117, 1)}, api.Move{From: at(1, 99, 1), To: at(1, 126, 1)})
}

// Promise 12.2: without files, or live places in them, nothing is copied, and the disk is not asked.
func TestCopyNothing(t *testing.T) {
	s := sample(t, 0)
	must(t, s.d.Fuse(0))
	for _, none := range [][]int{nil, {}, {3}, {0, 4, -1}, far()} {
		s.moved(none, s.places("a", "f", "bb"))
	}
	for _, none := range [][]api.Place{nil, {}, s.places("g"), {at(0, 0, 1), at(4, 0, 1)}} {
		s.moved([]int{1, 2}, none)
	}
	s.holds("1:a.bb.c", "2:dd.e.f", "3:g")
}

// Promise 12.2: a live place whose file is not among files is not got, so it may be none.
func TestCopyOthersUnseen(t *testing.T) {
	s := sample(t, 1000)
	live := s.places("c")
	for _, n := range far() {
		live = append(live, at(2, n, 1), at(3, 0, n), at(n, 0, 1))
	}
	s.moved([]int{1}, live, api.Move{From: at(1, 19, 1), To: at(3, 9, 1)})
	s.holds("1:a.bb.c", "2:dd.e.f", "3:g.c")
}

// Promise 12.2: a place that is none ends it with ErrValue, where it stands by File, At and Long: what came ahead of it was put, what comes behind it was not.
func TestCopyNoValue(t *testing.T) {
	for _, x := range []struct {
		wrong api.Place
		last  string
	}{
		{at(0, 0, 1), "3:g"}, {at(1, -1, 1), "3:g"}, {at(1, 0, 0), "3:g"}, {at(1, 0, -1), "3:g"},
		{at(1, 0, 2), "3:g.a"}, {at(1, 0, api.MaxFrame+1), "3:g.a"}, {at(1, 5, 1), "3:g.a"}, {at(1, 9, 1), "3:g.a"},
		{at(1, 19, 2), "3:g.a.c"}, {at(1, 28, 1), "3:g.a.c"}, {at(2, 0, 1), "3:g.a.c"}, {at(2, 18, 9), "3:g.a.c"},
	} {
		s := sample(t, 1000)
		s.notMoved([]int{2, 1, 0}, append([]api.Place{x.wrong}, s.places("f", "c", "a")...), api.ErrValue)
		s.holds("1:a.bb.c", "2:dd.e.f", x.last)
	}
	s := sample(t, 1000)
	for _, n := range far() {
		s.notMoved([]int{n}, []api.Place{at(n, 0, 1)}, api.ErrValue)
		s.notMoved([]int{1}, []api.Place{at(1, n, 2)}, api.ErrValue)
		s.notMoved([]int{1}, []api.Place{at(1, 0, n)}, api.ErrValue)
	}
	s.holds("1:a.bb.c", "2:dd.e.f", "3:g")
}

// Promise 12.2: what the disk refuses ends it: too little room, too many files, a disk that goes down. What was put ahead stays.
func TestCopyRefused(t *testing.T) {
	all := []string{"a", "bb", "c"}
	last := []string{"3:g", "3:g.a", "3:g.a.bb"}
	for done, rooms := range [][]int{{0, 8}, {9, 18}, {19, 27}} {
		for _, room := range rooms {
			s := sample(t, room)
			s.notMoved([]int{1}, s.places(all...), api.ErrSpace)
			s.holds("1:a.bb.c", "2:dd.e.f", last[done])
		}
	}
	for fuse, x := range last {
		s := sample(t, 1000)
		must(t, s.d.Fuse(fuse))
		s.notMoved([]int{1}, s.places(all...), api.ErrDown)
		s.crash(99)
		s.holds("1:a.bb.c", "2:dd.e.f", x)
	}
	s := stored(t, api.MaxBytes, 1, strings.Split(strings.Repeat("x ", api.MaxFiles-2)+"x", " ")...)
	s.put("y")
	s.notMoved([]int{api.MaxFiles}, s.places("y"), api.ErrSpace)
}

// Promise 12.2: a new file that would have too great a number is refused as chapter 11 does.
func TestCopyLastNumber(t *testing.T) {
	s := stored(t, 1000, 12, "a", "b")
	must(t, s.d.Rename("val.1", "val.1048576"))
	s.crash()
	s.notMoved([]int{api.MaxIndex}, []api.Place{at(api.MaxIndex, 0, 1)}, api.ErrLong)
	s.holds("1048576:a.b")
}

// Promise 12.2: each value takes one call of the disk, which is not synced.
func TestCopyNotSynced(t *testing.T) {
	s := sample(t, 1000)
	must(t, s.d.Fuse(3))
	live := s.places("a", "bb", "c", "a")
	moves, e := sweep.Copy(s.v, []int{1}, live)
	if len(moves) != 3 || e != api.OK {
		t.Fatal(moves, e)
	}
	if e := s.d.Sync(); e != api.ErrDown {
		t.Error(e)
	}
	s.crash()
	s.holds("1:a.bb.c", "2:dd.e.f", "3:g", "4:")
}

// Promise 12.2: values of no byte, of any bytes and of as many as may be come out as they were; a value that is there twice is copied twice.
func TestCopyValues(t *testing.T) {
	s := stored(t, api.MaxBytes, api.MaxFrame)
	values := []string{"", "\x00\xff\n", "same", "same", strings.Repeat("long", api.MaxFrame/4), "z"}
	var live []api.Place
	for _, value := range values {
		live = append(live, s.put(value))
	}
	moves, e := sweep.Copy(s.v, s.v.Files(), live)
	must(t, e)
	if len(moves) != len(live) {
		t.Fatal(moves)
	}
	for i, m := range moves {
		if m.From != live[i] || slices.Contains(live, m.To) {
			t.Error(i, m)
		}
	}
	swung, e := sweep.Swing(live, moves)
	must(t, e)
	s.has(live, values)
	s.has(swung, values)
}

// Promise 12.2: the last file may be copied too, behind itself.
func TestCopyLastFile(t *testing.T) {
	s := stored(t, 1000, 100, "a", "bb")
	live := s.places("bb", "a")
	s.moved([]int{1}, live, api.Move{From: at(1, 0, 1), To: at(1, 19, 1)}, api.Move{From: at(1, 9, 2), To: at(1, 28, 2)})
	s.holds("1:a.bb.a.bb")
}

// Promises 12.1 and 12.2: as many live places as there can be are taken, one more are not, and then nothing is copied.
func TestCopyMost(t *testing.T) {
	s := stored(t, api.MaxBytes, api.MaxFrame)
	for range api.MaxItems {
		s.put("")
	}
	live := many(api.MaxItems)
	s.notMoved([]int{1}, append(slices.Clone(live), live[0]), api.ErrLong)
	s.notMoved(nil, many(api.MaxItems+1), api.ErrLong)
	if n, e := s.v.Size(1); n != 8*api.MaxItems || e != api.OK {
		t.Fatal(n, e)
	}
	moves, e := sweep.Copy(s.v, []int{1}, live)
	must(t, e)
	for i, m := range moves {
		if m != (api.Move{From: live[i], To: at(1, 8*(api.MaxItems+i), 0)}) {
			t.Fatal(i, m)
		}
	}
	if len(moves) != api.MaxItems {
		t.Error(len(moves))
	}
}

// Promise 12.2 and rule R1: without values there is nothing to copy, whatever else is wrong.
func TestCopyNil(t *testing.T) {
	for _, live := range [][]api.Place{nil, many(1), many(api.MaxItems + 1)} {
		for _, files := range [][]int{nil, {1}} {
			l, e := sweep.Copy(nil, files, live)
			refuses(t, l, e, api.ErrNone)
		}
	}
}

// Rule R4: what is handed in is not changed, nor read behind its end; an answer is new memory, spare room too.
func TestCopyMemory(t *testing.T) {
	s := sample(t, 1000)
	live := s.places("c", "a", "c", "dd")
	files := []int{3, 1, 2}
	wasLive, wasFiles := slices.Clone(live), slices.Clone(files)
	first, e := sweep.Copy(s.v, files[:2], live[:3])
	is(t, first, e, api.Move{From: at(1, 0, 1), To: at(3, 9, 1)}, api.Move{From: at(1, 19, 1), To: at(3, 18, 1)})
	clear(first[:cap(first)])
	s.moved(files[:2], live, api.Move{From: at(1, 0, 1), To: at(4, 0, 1)}, api.Move{From: at(1, 19, 1), To: at(4, 9, 1)})
	is(t, live, api.OK, wasLive...)
	is(t, files, api.OK, wasFiles...)
}
