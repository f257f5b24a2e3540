package fields_test

import (
	"math"
	"testing"

	"skylark/api"
	"skylark/fields"
)

// list is a number, a text, a number.
func list() []api.Field {
	return []api.Field{{N: 7}, {Text: true, S: "ab"}, {N: -1}}
}

// Promise 1.1: the fields that are made may be, and are as they were asked for.
func TestMade(t *testing.T) {
	for _, n := range []int{0, 1, -1, math.MaxInt, math.MinInt} {
		if f := fields.Number(n); f != (api.Field{N: int64(n)}) {
			t.Error(n, f)
		}
	}
	for _, s := range []string{"", "a", "\x00\xff"} {
		if f := fields.Text(s); f != (api.Field{Text: true, S: s}) {
			t.Error(s, f)
		}
	}
}

// Promise 8.2: fields are taken one by one from the front, and the end is told.
func TestTaken(t *testing.T) {
	r := fields.Read(list())
	if r.IsText() || !r.GoesOn() || r.IsDone() {
		t.Error(r)
	}
	if n := r.Number(); n != 7 || !r.IsText() || !r.GoesOn() || r.IsDone() {
		t.Error(n, r)
	}
	if s := r.Text(); s != "ab" || r.IsText() || !r.GoesOn() || r.IsDone() {
		t.Error(s, r)
	}
	if n := r.Number(); n != -1 || r.IsText() || r.GoesOn() || !r.IsDone() {
		t.Error(n, r)
	}
}

// Promise 8.2: a field of the other kind, or one that is not there, reads as zero, and the list is never done.
func TestWrong(t *testing.T) {
	r := fields.Read(list())
	if s := r.Text(); s != "" || r.GoesOn() || r.IsDone() {
		t.Error(s, r)
	}
	r.Number()
	if n := r.Number(); n != 0 {
		t.Error(n)
	}
	r.Text()
	r.Number()
	if r.GoesOn() || r.IsDone() {
		t.Error(r)
	}
	for _, none := range [][]api.Field{nil, {}} {
		r = fields.Read(none)
		if r.GoesOn() || !r.IsDone() || r.IsText() {
			t.Error(r)
		}
		if n, s := r.Number(), r.Text(); n != 0 || s != "" || r.IsDone() {
			t.Error(n, s, r)
		}
	}
}

// Promise 8.2: a count is from 0 to the most that may be; any other is none, and wrong.
func TestCount(t *testing.T) {
	for _, n := range []int{0, 1, 5} {
		r := fields.Read([]api.Field{fields.Number(n)})
		if got := r.Count(5); got != n || !r.IsDone() {
			t.Error(n, got, r)
		}
	}
	for _, n := range []int{6, -1, math.MaxInt, math.MinInt} {
		r := fields.Read([]api.Field{fields.Number(n)})
		if got := r.Count(5); got != 0 || r.IsDone() {
			t.Error(n, got, r)
		}
	}
	r := fields.Read([]api.Field{fields.Text("1")})
	if got := r.Count(5); got != 0 || r.IsDone() {
		t.Error(got, r)
	}
}

// Promise 16.3: a number is within its bounds, both of which may be; any other is none, and wrong, even where it could be read as 0.
func TestWithin(t *testing.T) {
	for _, x := range []struct {
		n, least, most, want int
		done                 bool
	}{
		{2, 2, 5, 2, true}, {5, 2, 5, 5, true}, {3, 2, 5, 3, true}, {-3, -3, -3, -3, true}, {math.MinInt, math.MinInt, math.MaxInt, math.MinInt, true}, {math.MaxInt, 0, math.MaxInt, math.MaxInt, true},
		{1, 2, 5, 0, false}, {6, 2, 5, 0, false}, {0, 1, 5, 0, false}, {0, -5, -1, 0, false}, {math.MinInt, 2, 5, 0, false}, {math.MaxInt, 2, 5, 0, false},
	} {
		r := fields.Read([]api.Field{fields.Number(x.n)})
		if got := r.Within(x.least, x.most); got != x.want || r.IsDone() != x.done {
			t.Error(x, got, r)
		}
	}
	for _, none := range [][]api.Field{nil, {fields.Text("")}} {
		r := fields.Read(none)
		if got := r.Within(-1, 1); got != 0 || r.IsDone() {
			t.Error(got, r)
		}
	}
}

// Rule R4: a list that is read stays as it is.
func TestListStays(t *testing.T) {
	l := list()
	r := fields.Read(l)
	r.Number()
	r.Number()
	for i, f := range list() {
		if l[i] != f {
			t.Error(i, l[i])
		}
	}
}
