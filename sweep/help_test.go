package sweep_test

import (
	"math"
	"slices"
	"strconv"
	"strings"
	"testing"

	"skylark/api"
	"skylark/disk"
	"skylark/sweep"
	"skylark/vals"
)

// at is a place.
func at(file, begin, long int) api.Place {
	return api.Place{File: file, At: begin, Long: long}
}

// many are so many places of file 1, each another one.
func many(n int) []api.Place {
	var l []api.Place
	for i := range n {
		l = append(l, at(1, 8*i, 0))
	}
	return l
}

// far are numbers as great, and as far below 0, as there are.
func far() []int {
	return []int{math.MinInt, math.MinInt + 1, math.MinInt32, -api.MaxIndex, -2, -1, 0, api.MaxFrame + 1, api.MaxBytes + 1, api.MaxIndex + 1, math.MaxInt32 + 1, math.MaxInt - 8, math.MaxInt}
}

// must fails unless a call was taken.
func must(t *testing.T, e api.Errno) {
	t.Helper()
	if e != api.OK {
		t.Fatal(e)
	}
}

// is fails unless a call answered that list, and no error.
func is[T comparable](t *testing.T, got []T, e api.Errno, want ...T) {
	t.Helper()
	if e != api.OK || !slices.Equal(got, want) {
		t.Errorf("%v %v, not %v", got, e, want)
	}
}

// refuses fails unless a call answered that error, and an empty list.
func refuses[T any](t *testing.T, got []T, e, want api.Errno) {
	t.Helper()
	if e != want || len(got) != 0 {
		t.Errorf("%v %v, not %v", got, e, want)
	}
}

// store is values on a disk, and where each was put.
type store struct {
	t    *testing.T
	d    *disk.Disk
	v    *vals.Vals
	most int
	at   map[string]api.Place
}

// stored is a store of so much room with these values, safe at once.
func stored(t *testing.T, room, most int, values ...string) *store {
	t.Helper()
	d, e := disk.New(room)
	must(t, e)
	v, e := vals.Open(d, most)
	must(t, e)
	s := &store{t, d, v, most, map[string]api.Place{}}
	for _, value := range values {
		s.put(value)
	}
	must(t, d.Sync())
	return s
}

func (s *store) put(value string) api.Place {
	s.t.Helper()
	p, e := s.v.Put(value)
	must(s.t, e)
	s.at[value] = p
	return p
}

// places are those at which some values were put.
func (s *store) places(values ...string) []api.Place {
	var l []api.Place
	for _, value := range values {
		l = append(l, s.at[value])
	}
	return l
}

// sizes are those of all files.
func (s *store) sizes() []api.Size {
	s.t.Helper()
	var l []api.Size
	for _, file := range s.v.Files() {
		n, e := s.v.Size(file)
		must(s.t, e)
		l = append(l, api.Size{File: file, Bytes: n})
	}
	return l
}

// crash opens the values behind a crash.
func (s *store) crash(draws ...int) {
	s.t.Helper()
	must(s.t, s.d.Crash(draws))
	v, e := vals.Open(s.d, s.most)
	must(s.t, e)
	s.v = v
}

// has fails unless these values are at these places.
func (s *store) has(places []api.Place, values []string) {
	s.t.Helper()
	if len(places) != len(values) {
		s.t.Fatal(len(places), len(values))
	}
	for i, p := range places {
		if got, e := s.v.Get(p); got != values[i] || e != api.OK {
			s.t.Fatalf("%v: %d bytes, %v, not %d bytes", p, len(got), e, len(values[i]))
		}
	}
}

// holds fails unless there are just these files: of each its number, a colon, and its values with points between.
func (s *store) holds(want ...string) {
	s.t.Helper()
	var l []string
	for _, file := range s.v.Files() {
		places, e := s.v.Places(file)
		must(s.t, e)
		var values []string
		for _, p := range places {
			value, e := s.v.Get(p)
			must(s.t, e)
			values = append(values, value)
		}
		l = append(l, strconv.Itoa(file)+":"+strings.Join(values, "."))
	}
	if !slices.Equal(l, want) {
		s.t.Errorf("%q, not %q", l, want)
	}
}

// moved fails unless Copy answers those moves.
func (s *store) moved(files []int, live []api.Place, want ...api.Move) {
	s.t.Helper()
	l, e := sweep.Copy(s.v, files, live)
	is(s.t, l, e, want...)
}

// notMoved fails unless Copy tells that error.
func (s *store) notMoved(files []int, live []api.Place, want api.Errno) {
	s.t.Helper()
	l, e := sweep.Copy(s.v, files, live)
	refuses(s.t, l, e, want)
}

// freed fails unless Free answers that many, and that error.
func (s *store) freed(files []int, live []api.Place, want int, wrong api.Errno) {
	s.t.Helper()
	if n, e := sweep.Free(s.v, files, live); n != want || e != wrong {
		s.t.Errorf("%d %v, not %d %v", n, e, want, wrong)
	}
}
