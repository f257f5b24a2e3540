package span_test

import (
	"slices"
	"testing"

	"skylark/api"
	"skylark/span"
)

// The chapter's example.
func TestExample(t *testing.T) {
	l, e := span.Normal(list("b", "d", "a", "b", "e", ""))
	is(t, l, e, list("a", "d", "e", ""))
	l, e = span.Minus(list("a", ""), list("b", "c"))
	is(t, l, e, list("a", "b", "c", ""))
}

// Promise 5.1: a list becomes the normal one with the same texts: sorted, and whole where spans touch or overlap.
func TestNormal(t *testing.T) {
	for _, x := range []struct{ l, want []api.Span }{
		{nil, nil},
		{[]api.Span{}, nil},
		{list("a", "b"), list("a", "b")},
		{list("", ""), list("", "")},
		{list("c", "d", "a", "b"), list("a", "b", "c", "d")},
		{list("a", "c", "b", "d"), list("a", "d")},
		{list("b", "d", "a", "c"), list("a", "d")},
		{list("a", "b", "b", "c"), list("a", "c")},
		{list("b", "c", "a", "b"), list("a", "c")},
		{list("a", "d", "b", "c"), list("a", "d")},
		{list("b", "c", "a", "d"), list("a", "d")},
		{list("a", "b", "a", "b", "a", "b"), list("a", "b")},
		{list("a", "b", "a", "c"), list("a", "c")},
		{list("a", "c", "b", "c"), list("a", "c")},
		{list("a", "", "b", "c"), list("a", "")},
		{list("b", "c", "a", "", "x", ""), list("a", "")},
		{list("a", "c", "b", ""), list("a", "")},
		{list("a", "b", "b", ""), list("a", "")},
		{list("a", "b", "c", ""), list("a", "b", "c", "")},
		{list("", "a", "a", ""), list("", "")},
		{list("", "a", "b", ""), list("", "a", "b", "")},
		{list("", "", "", ""), list("", "")},
		{list("", "\x00"), list("", "\x00")},
		{list("", "\x00", "\x00", "a"), list("", "a")},
		{list("a", "b", "e", "f", "c", "d", "b", "c", "d", "e"), list("a", "f")},
		{list("a", "z", "b", "c", "d", "e", "y", "zz"), list("a", "zz")},
	} {
		l, e := span.Normal(x.l)
		is(t, l, e, x.want)
		isNormal(t, l)
	}
}

// Promise 5.1: the order is that of bytes: a key that lies between two spans keeps them apart, be it the least that goes on behind another.
func TestNormalByBytes(t *testing.T) {
	for _, x := range []struct{ l, want []api.Span }{
		{list("a", "b", "b\x00", "c"), list("a", "b", "b\x00", "c")},
		{list("a", "a\x00", "a\x00", "b"), list("a", "b")},
		{list("a", "a\x00", "a\x00\x00", "b"), list("a", "a\x00", "a\x00\x00", "b")},
		{list("\x80", "\x81", "\x7f", "\x80"), list("\x7f", "\x81")},
		{list("\xff", "", "\xfe", "\xfe\xff"), list("\xfe", "\xfe\xff", "\xff", "")},
		{list("a", "a\xff", "a\xff", "b"), list("a", "b")},
		{list("a", "a\xff", "b", "c"), list("a", "a\xff", "b", "c")},
		{list("b", "c", "aa", "ab", "ab", "b"), list("aa", "c")},
		{list("a", "aaa", "aa", "ab"), list("a", "ab")},
		{list(long(64), "l", long(63), long(64)), list(long(63), "l")},
		{list("", long(64), "l", ""), list("", long(64), "l", "")},
	} {
		l, e := span.Normal(x.l)
		is(t, l, e, x.want)
		isNormal(t, l)
	}
}

// Promise 5.1: a list of api.MaxItems spans may be, one more may not; and that comes ahead of a span that may not be.
func TestNormalOfLongLists(t *testing.T) {
	most := many(api.MaxItems)
	l, e := span.Normal(most)
	is(t, l, e, most)
	slices.Reverse(most)
	l, e = span.Normal(most)
	is(t, l, e, many(api.MaxItems))
	same := slices.Repeat(list("a", "b"), api.MaxItems)
	l, e = span.Normal(same)
	is(t, l, e, list("a", "b"))
	for _, n := range []int{1, 2, api.MaxItems} {
		l, e = span.Normal(many(api.MaxItems + n))
		refuses(t, l, e, api.ErrLong)
	}
	l, e = span.Normal(append(same, to("a", "b")))
	refuses(t, l, e, api.ErrLong)
	l, e = span.Normal(slices.Repeat(list("b", "b"), api.MaxItems+1))
	refuses(t, l, e, api.ErrLong)
	l, e = span.Normal(append(list("b", "b"), many(api.MaxItems)...))
	refuses(t, l, e, api.ErrLong)
}

// Promise 5.1: one span that may not be is enough, wherever it stands, even if others have all its texts.
func TestNormalRefuses(t *testing.T) {
	for _, s := range bad() {
		for _, l := range [][]api.Span{
			{s}, {s, to("a", "b")}, {to("a", "b"), s}, {to("a", "b"), s, to("c", "")}, {to("", ""), s}, {s, to("", "")}, {s, s},
			append(many(api.MaxItems-1), s),
		} {
			got, e := span.Normal(l)
			refuses(t, got, e, api.ErrSpan)
		}
	}
	for _, s := range good() {
		got, e := span.Normal([]api.Span{s})
		is(t, got, e, []api.Span{s})
	}
}
