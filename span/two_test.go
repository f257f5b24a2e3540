package span_test

import (
	"slices"
	"testing"

	"skylark/api"
	"skylark/span"
)

// Promise 5.2: what is in a or b, in both, in a and not in b.
func TestUnionMeetMinus(t *testing.T) {
	for _, x := range []struct{ a, b, union, meet, minus []api.Span }{
		{nil, nil, nil, nil, nil},
		{list("a", "b"), nil, list("a", "b"), nil, list("a", "b")},
		{nil, list("a", "b"), list("a", "b"), nil, nil},
		{list("a", "b"), list("a", "b"), list("a", "b"), list("a", "b"), nil},
		{list("a", "b"), list("b", "c"), list("a", "c"), nil, list("a", "b")},
		{list("b", "c"), list("a", "b"), list("a", "c"), nil, list("b", "c")},
		{list("a", "b"), list("c", "d"), list("a", "b", "c", "d"), nil, list("a", "b")},
		{list("a", "c"), list("b", "d"), list("a", "d"), list("b", "c"), list("a", "b")},
		{list("b", "d"), list("a", "c"), list("a", "d"), list("b", "c"), list("c", "d")},
		{list("a", "d"), list("b", "c"), list("a", "d"), list("b", "c"), list("a", "b", "c", "d")},
		{list("b", "c"), list("a", "d"), list("a", "d"), list("b", "c"), nil},
		{list("a", "c"), list("a", "b"), list("a", "c"), list("a", "b"), list("b", "c")},
		{list("a", "c"), list("b", "c"), list("a", "c"), list("b", "c"), list("a", "b")},
		{list("a", ""), list("b", "c"), list("a", ""), list("b", "c"), list("a", "b", "c", "")},
		{list("a", ""), list("b", ""), list("a", ""), list("b", ""), list("a", "b")},
		{list("b", ""), list("a", ""), list("a", ""), list("b", ""), nil},
		{list("b", "c"), list("a", ""), list("a", ""), list("b", "c"), nil},
		{list("", ""), list("", ""), list("", ""), list("", ""), nil},
		{list("", ""), nil, list("", ""), nil, list("", "")},
		{list("", ""), list("m", "n"), list("", ""), list("m", "n"), list("", "m", "n", "")},
		{list("", "m"), list("m", ""), list("", ""), nil, list("", "m")},
		{list("", ""), list("", "\x00"), list("", ""), list("", "\x00"), list("\x00", "")},
		{list("a", "b\x00"), list("b", "c"), list("a", "c"), list("b", "b\x00"), list("a", "b")},
		{list("", "c", "d", "f"), list("b", "e"), list("", "f"), list("b", "c", "d", "e"), list("", "b", "e", "f")},
		{list("a", "z"), list("b", "c", "d", "e"), list("a", "z"), list("b", "c", "d", "e"), list("a", "b", "c", "d", "e", "z")},
	} {
		l, e := span.Union(x.a, x.b)
		is(t, l, e, x.union)
		l, e = span.Meet(x.a, x.b)
		is(t, l, e, x.meet)
		l, e = span.Minus(x.a, x.b)
		is(t, l, e, x.minus)
	}
}

// Promise 5.2: the lists need not be normal.
func TestListsThatAreNotNormal(t *testing.T) {
	a := list("d", "f", "a", "c", "b", "e", "a", "c", "m", "n")
	b := list("e", "g", "b", "c", "bb", "d", "b", "c", "n", "", "p", "q")
	l, e := span.Union(a, b)
	is(t, l, e, list("a", "g", "m", ""))
	l, e = span.Meet(a, b)
	is(t, l, e, list("b", "d", "e", "f"))
	l, e = span.Minus(a, b)
	is(t, l, e, list("a", "b", "d", "e", "m", "n"))
	l, e = span.Minus(b, a)
	is(t, l, e, list("f", "g", "n", ""))
	// A span that one list has twice is still there when one of the two ends.
	l, e = span.Meet(list("a", "z", "b", "c"), list("a", "z", "d", "e"))
	is(t, l, e, list("a", "z"))
	l, e = span.Minus(list("a", "z"), list("b", "y", "c", "d"))
	is(t, l, e, list("a", "b", "y", "z"))
}

// Promise 5.2: what Normal refuses of a, then what it refuses of b.
func TestRefusals(t *testing.T) {
	tooMany := many(api.MaxItems + 1)
	wrong := list("b", "b")
	both := append(list("c", "b"), many(api.MaxItems)...)
	fine := list("a", "b")
	for _, c := range calls() {
		for _, x := range []struct {
			a, b []api.Span
			want api.Errno
		}{
			{tooMany, nil, api.ErrLong}, {nil, tooMany, api.ErrLong}, {tooMany, tooMany, api.ErrLong},
			{wrong, nil, api.ErrSpan}, {nil, wrong, api.ErrSpan}, {wrong, wrong, api.ErrSpan},
			{tooMany, wrong, api.ErrLong}, {wrong, tooMany, api.ErrSpan},
			{both, nil, api.ErrLong}, {nil, both, api.ErrLong}, {both, wrong, api.ErrLong}, {wrong, both, api.ErrSpan},
			{fine, wrong, api.ErrSpan}, {fine, tooMany, api.ErrLong}, {fine, both, api.ErrLong},
			{wrong, fine, api.ErrSpan}, {tooMany, fine, api.ErrLong}, {both, fine, api.ErrLong},
		} {
			l, e := c.do(x.a, x.b)
			refuses(t, l, e, x.want)
		}
		for _, s := range bad() {
			l, e := c.do(append(list("a", "b"), s), fine)
			refuses(t, l, e, api.ErrSpan)
			l, e = c.do(fine, append(list("a", "b"), s))
			refuses(t, l, e, api.ErrSpan)
			l, e = c.do(nil, append(many(api.MaxItems-1), s))
			refuses(t, l, e, api.ErrSpan)
		}
	}
}

// Promise 5.2: an answer has at most api.MaxItems spans.
func TestLongAnswers(t *testing.T) {
	most := many(api.MaxItems)
	behind := list("\xff", "")
	l, e := span.Union(most[1:], behind)
	is(t, l, e, append(slices.Clone(most[1:]), behind...))
	l, e = span.Union(most, behind)
	refuses(t, l, e, api.ErrLong)
	l, e = span.Union(behind, most)
	refuses(t, l, e, api.ErrLong)
	l, e = span.Union(most, most)
	is(t, l, e, most)
	all := list("", "")
	l, e = span.Minus(all, most[1:])
	is(t, l, e, holes(most[1:]))
	l, e = span.Minus(all, most)
	refuses(t, l, e, api.ErrLong)
	l, e = span.Minus(list(most[0].From, ""), most)
	is(t, l, e, holes(most)[1:])
	l, e = span.Meet(most[:api.MaxItems-1], halves(most[0]))
	is(t, l, e, append(list(place(1), place(1)+"a", place(1)+"b", place(3)), most[1:api.MaxItems-1]...))
	l, e = span.Meet(most, halves(most[0]))
	refuses(t, l, e, api.ErrLong)
	l, e = span.Meet(halves(most[0]), most)
	refuses(t, l, e, api.ErrLong)
	l, e = span.Meet(most, list("", place(2), place(3), ""))
	is(t, l, e, append(list(place(1), place(2)), most[1:]...))
	l, e = span.Union(most, holes(most)[:api.MaxItems])
	is(t, l, e, list("", most[api.MaxItems-1].To))
}

// holes is what a normal list lacks that begins behind "" and ends.
func holes(l []api.Span) []api.Span {
	var out []api.Span
	from := ""
	for _, s := range l {
		out = append(out, to(from, s.From))
		from = s.To
	}
	return append(out, to(from, ""))
}

// halves are all texts but a stretch within the span.
func halves(s api.Span) []api.Span {
	return list("", s.From+"a", s.From+"b", "")
}
