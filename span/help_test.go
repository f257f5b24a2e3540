package span_test

import (
	"slices"
	"strings"
	"testing"

	"skylark/api"
	"skylark/span"
)

// call is Union, Meet or Minus.
type call struct {
	name  string
	do    func(a, b []api.Span) ([]api.Span, api.Errno)
	keeps func(inA, inB bool) bool
}

// calls are those that reckon with two lists, and what each of them keeps.
func calls() []call {
	return []call{
		{"Union", span.Union, func(inA, inB bool) bool { return inA || inB }},
		{"Meet", span.Meet, func(inA, inB bool) bool { return inA && inB }},
		{"Minus", span.Minus, func(inA, inB bool) bool { return inA && !inB }},
	}
}

// to is the span from one text to another.
func to(from, below string) api.Span {
	return api.Span{From: from, To: below}
}

// list is a list of the spans from each text to the one behind it.
func list(ends ...string) []api.Span {
	var l []api.Span
	for i := 0; i < len(ends); i += 2 {
		l = append(l, to(ends[i], ends[i+1]))
	}
	return l
}

// is fails unless a call answered those spans, and no error.
func is(t *testing.T, got []api.Span, e api.Errno, want []api.Span) {
	t.Helper()
	if e != api.OK || !slices.Equal(got, want) {
		t.Errorf("%q %v, not %q", got, e, want)
	}
}

// refuses fails unless a call answered that error, and no span.
func refuses(t *testing.T, got []api.Span, e, want api.Errno) {
	t.Helper()
	if len(got) != 0 || e != want {
		t.Errorf("%d spans, %v, not %v", len(got), e, want)
	}
}

// isNormal fails unless a list is normal, by the chapter's words.
func isNormal(t *testing.T, l []api.Span) {
	t.Helper()
	for i, s := range l {
		if e := span.Check(s); e != api.OK {
			t.Errorf("%q: %v", s, e)
		}
		if i > 0 && (l[i-1].To == "" || l[i-1].To >= s.From) {
			t.Errorf("%q behind %q", s, l[i-1])
		}
	}
}

// long is a text of so many bytes.
func long(bytes int) string {
	return strings.Repeat("k", bytes)
}

// place is a text that rises with its number, of which there are 2^16.
func place(n int) string {
	return string([]byte{byte(n >> 8), byte(n)})
}

// many are so many spans that do not touch: from place 4n+1 to place 4n+3.
func many(spans int) []api.Span {
	var l []api.Span
	for n := range spans {
		l = append(l, to(place(4*n+1), place(4*n+3)))
	}
	return l
}

// bad are spans that may not be.
func bad() []api.Span {
	return []api.Span{
		to("b", "b"), to("c", "b"), to("ba", "b"), to("b\x00", "b"), to("\xff", "\x00"), to("\x80", "\x7f"),
		to(long(65), ""), to("", long(65)), to(long(65), "l"), to("a", long(65)), to(long(65), long(66)),
		to(long(64), long(64)), to(long(64), long(63)), to("", long(1000)), to(long(1000), ""),
	}
}

// good are spans that may be.
func good() []api.Span {
	return []api.Span{
		to("", ""), to("", "\x00"), to("a", ""), to("a", "b"), to("a", "a\x00"), to("\x00", "\x00\x00"),
		to("\x7f", "\x80"), to("a\xff", "b"), to("Z", "a"), to("\xff", ""), to("é", "\xff"),
		to(long(64), ""), to("", long(64)), to(long(63), long(64)), to(long(64), "l"), to("\xff\xff", "\xff\xff\xff"),
	}
}
