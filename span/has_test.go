package span_test

import (
	"testing"

	"skylark/api"
	"skylark/span"
)

// Promise 5.1: Check refuses spans with a text that is too long, and those whose To is neither empty nor above From.
func TestCheck(t *testing.T) {
	for _, s := range bad() {
		if e := span.Check(s); e != api.ErrSpan {
			t.Errorf("%q: %v", s, e)
		}
	}
	for _, s := range good() {
		if e := span.Check(s); e != api.OK {
			t.Errorf("%q: %v", s, e)
		}
	}
}

// Promise 5.1: a span has the texts from From on that are below To, byte by byte, a beginning ahead of what goes on.
func TestHasOfOneSpan(t *testing.T) {
	for _, x := range []struct {
		s    api.Span
		key  string
		want bool
	}{
		{to("b", "d"), "b", true}, {to("b", "d"), "c", true}, {to("b", "d"), "cz", true},
		{to("b", "d"), "d", false}, {to("b", "d"), "d\x00", false}, {to("b", "d"), "a", false},
		{to("b", "d"), "a\xff", false}, {to("b", "d"), "b\x00", true}, {to("b", "d"), "c\xff\xff", true},
		{to("b", "d"), "", false}, {to("b", "d"), "B", false}, {to("b", "d"), "\xff", false},
		{to("b", ""), "b", true}, {to("b", ""), "\xff\xff", true}, {to("b", ""), "az", false},
		{to("", "b"), "", true}, {to("", "b"), "\x00", true}, {to("", "b"), "az", true}, {to("", "b"), "b", false},
		{to("", ""), "", true}, {to("", ""), "x", true},
		{to("ab", "ab\x00"), "ab", true}, {to("ab", "ab\x00"), "ab\x00", false}, {to("ab", "ab\x00"), "a", false},
		{to("\x7f", "\x80"), "\x7f\xff", true}, {to("\x7f", "\x80"), "\x80", false}, {to("\x80", "\xff"), "\x7f", false},
	} {
		if span.Has([]api.Span{x.s}, x.key) != x.want {
			t.Errorf("%q %q: not %v", x.s, x.key, x.want)
		}
	}
}

// Promise 5.1: one span of a list is enough, in whatever order and however many they are.
func TestHasOfLists(t *testing.T) {
	l := list("m", "p", "a", "c", "b", "d", "x", "")
	for _, key := range []string{"m", "o", "a", "b", "c", "cz", "x", "zz"} {
		if !span.Has(l, key) {
			t.Errorf("%q", key)
		}
	}
	for _, key := range []string{"", "A", "d", "l", "p", "w\xff"} {
		if span.Has(l, key) {
			t.Errorf("%q", key)
		}
	}
	if span.Has(nil, "") || span.Has([]api.Span{}, "a") {
		t.Error("a list without a span has a key")
	}
	longer := many(api.MaxItems + 2)
	if last := longer[len(longer)-1]; !span.Has(longer, last.From) || span.Has(longer, last.To) {
		t.Error("the last span of a list that Normal refuses")
	}
}

// Promise 5.1: Has takes any spans, also those that may not be, and any key, also one that is too long.
func TestHasOfAnySpans(t *testing.T) {
	for _, x := range []struct {
		s    api.Span
		key  string
		want bool
	}{
		{to("c", "b"), "b", false}, {to("c", "b"), "bz", false}, {to("c", "b"), "c", false}, {to("c", "b"), "a", false},
		{to("c", "b"), "d", false}, {to("b", "b"), "b", false}, {to("b", "b"), "b\x00", false},
		{to(long(65), ""), long(65), true}, {to(long(65), ""), long(64), false}, {to(long(65), ""), long(66), true},
		{to("", long(65)), long(64), true}, {to("", long(65)), long(65), false},
		{to(long(65), long(67)), long(66), true}, {to(long(65), long(67)), long(67), false},
		{to("a", "l"), long(1000), true}, {to("l", ""), long(1000), false}, {to("a", long(1000)), long(999), true},
	} {
		if span.Has([]api.Span{x.s}, x.key) != x.want {
			t.Errorf("%q %q: not %v", x.s, x.key, x.want)
		}
		if span.Has([]api.Span{to("0", "1"), x.s, to("0", "1")}, x.key) != x.want {
			t.Errorf("%q %q among others: not %v", x.s, x.key, x.want)
		}
	}
}
